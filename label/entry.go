package label

import (
	"cmp"
	"strings"

	"waterwheel/api"
)

// An entry is a label with methods, by which labels are sorted and searched.
type entry api.Label

// empty reports whether e is the same as no label.
func (e entry) empty() bool {
	return e.Text == ""
}

// wrong reports whether e is in no valid set.
func (e entry) wrong() bool {
	return !Name(e.Name) || e.empty() || len(e.Text) > maxText
}

// toName compares the name of e with a name.
func (e entry) toName(name string) int {
	return strings.Compare(e.Name, name)
}

// byName compares e and f by their names.
func (e entry) byName(f entry) int {
	return e.toName(f.Name)
}

// compare compares e and f by their names, then by their texts.
func (e entry) compare(f entry) int {
	return cmp.Or(e.byName(f), strings.Compare(e.Text, f.Text))
}

// entries returns labels as entries.
func entries(l []api.Label) []entry {
	own := make([]entry, len(l))
	for i, x := range l {
		own[i] = entry(x)
	}
	return own
}

// labels returns entries as labels.
func labels(l []entry) []api.Label {
	own := make([]api.Label, len(l))
	for i, x := range l {
		own[i] = api.Label(x)
	}
	return own
}

// ascend reports whether each element of l is less than the next one.
func ascend[E any](l []E, by func(a, b E) int) bool {
	for i := 1; i < len(l); i++ {
		if by(l[i-1], l[i]) >= 0 {
			return false
		}
	}
	return true
}

// first returns the first element of l that is equal to x, or the zero value.
// It does not rely on an order of l.
func first[E, T any](l []E, x T, by func(e E, x T) int) (found E) {
	for _, e := range l {
		if by(e, x) == 0 {
			return e
		}
	}
	return found
}
