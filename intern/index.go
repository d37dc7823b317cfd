package intern

import (
	"cmp"
	"maps"
	"slices"

	"waterwheel/api"
	"waterwheel/ast"
)

// An index has, for each name and text, the numbers of the series with this
// label, ascending.
type index map[string]map[string][]int

// add adds the labels of a series, whose number must be above all others.
func (x index) add(id int, labels []api.Label) {
	for _, l := range labels {
		if x[l.Name] == nil {
			x[l.Name] = map[string][]int{}
		}
		x[l.Name][l.Text] = append(x[l.Name][l.Text], id)
	}
}

// named returns the numbers of the series with a label of a name, ascending.
func (x index) named(name string) []int {
	l := slices.Concat(slices.Collect(maps.Values(x[name]))...)
	slices.Sort(l)
	return l
}

// A sieve is a condition on series: of some numbers in ascending order, it
// returns those of the series that meet it, of which there are at most most.
type sieve struct {
	most int
	of   func(l []int) []int
}

// Takes returns the numbers of the series that e accepts, ascending: none if e
// is not a valid window.
func (t *Table) Takes(e api.Expr) []int {
	if !t.valid() || e.Kind != api.ExWindow || ast.CheckExpr(e) != api.OK {
		return nil
	}
	sieves := []sieve{t.sieve(t.metrics[e.Metric], true)}
	for _, m := range e.Match {
		sieves = append(sieves, t.labelled(m.Name, m.Text, m.Kind == api.MatchIs))
	}
	// The first ones leave few numbers for the others to look at.
	slices.SortFunc(sieves, func(a, b sieve) int { return cmp.Compare(a.most, b.most) })
	found := t.all()
	for _, s := range sieves {
		found = s.of(found)
	}
	return found
}

// With returns the numbers of the series with a label, ascending; for an empty
// text, those of the series without a label of this name.
func (t *Table) With(name, text string) []int {
	if !t.valid() {
		return nil
	}
	return t.labelled(name, text, true).of(t.all())
}

// all returns the numbers of all series, ascending.
func (t *Table) all() []int {
	l := make([]int, len(t.series))
	for i := range l {
		l[i] = i + 1
	}
	return l
}

// labelled returns the condition that it is true, or false, that a series has a
// label. An empty text is no label of this name.
func (t *Table) labelled(name, text string, is bool) sieve {
	if text == "" {
		return t.sieve(t.labels.named(name), !is)
	}
	return t.sieve(t.labels[name][text], is)
}

// sieve returns the condition that it is true, or false, that the number of a
// series is in a list in ascending order.
func (t *Table) sieve(list []int, in bool) sieve {
	if in {
		return sieve{len(list), func(l []int) []int { return common(l, list) }}
	}
	return sieve{len(t.series) - len(list), func(l []int) []int { return pick(l, list, false) }}
}

// common returns the numbers that are in both of two ascending lists.
func common(a, b []int) []int {
	if len(a) > len(b) {
		a, b = b, a
	}
	return pick(a, b, true)
}

// pick returns the numbers of l of which it is true, or false, that they are in
// a list in ascending order.
func pick(l, list []int, in bool) []int {
	var picked []int
	for _, id := range l {
		if _, is := slices.BinarySearch(list, id); is == in {
			picked = append(picked, id)
		}
	}
	return picked
}
