package group

import (
	"maps"
	"slices"
	"strings"

	"waterwheel/api"
)

// A table has results by the keys of their labels.
type table map[string]api.Result

// tabled returns a table of results with different labels.
func tabled(v []api.Result) table {
	t := table{}
	for _, x := range v {
		t[keyOf(x.Labels)] = x
	}
	return t
}

// set applies a change of labels with a key.
func (t table) set(key string, c api.Change) {
	if c.Gone {
		delete(t, key)
	} else {
		t[key] = result(c.Labels, c.Value)
	}
}

// size returns how many results there would be after changes.
func (t table) size(last map[string]api.Change) int {
	n := len(t)
	for key, c := range last {
		if _, is := t[key]; is {
			n--
		}
		if !c.Gone {
			n++
		}
	}
	return n
}

// vector returns the results as a vector, with labels of its own.
func (t table) vector() []api.Result {
	var v []api.Result
	for _, key := range slices.Sorted(maps.Keys(t)) {
		v = append(v, result(t[key].Labels, t[key].Value))
	}
	return v
}

// changes returns the changes that turn old into now, in the order of labels.
func changes(old, now table) []api.Change {
	all := maps.Clone(old)
	maps.Copy(all, now)
	var l []api.Change
	for _, key := range slices.Sorted(maps.Keys(all)) {
		before, was := old[key]
		after, is := now[key]
		if was != is || before.Value != after.Value {
			l = append(l, api.Change{Labels: slices.Clone(all[key].Labels), Value: after.Value, Gone: !is})
		}
	}
	return l
}

// result returns a result with labels of its own.
func result(labels []api.Label, v api.Value) api.Result {
	return api.Result{Labels: slices.Clone(labels), Value: v}
}

// keyOf returns a key of a valid set of labels. Keys have the order of their
// sets, unlike those of package label, which begin with a length: so they are
// sorted without a look at the labels.
func keyOf(l []api.Label) string {
	var b strings.Builder
	for _, x := range l {
		writeEnded(&b, x.Name)
		writeEnded(&b, x.Text)
	}
	return b.String()
}

// writeEnded writes s and its end. The end is two bytes 0, so that it comes
// before whatever may follow in a longer text: there is a 1 behind each 0.
func writeEnded(b *strings.Builder, s string) {
	for i := range len(s) {
		b.WriteByte(s[i])
		if s[i] == 0 {
			b.WriteByte(1)
		}
	}
	b.WriteByte(0)
	b.WriteByte(0)
}
