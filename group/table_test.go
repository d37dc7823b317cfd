package group

import (
	"cmp"
	"slices"
	"strconv"
	"testing"

	"waterwheel/api"
	"waterwheel/label"
)

// sets returns many sets of labels.
func sets() [][]api.Label {
	l := [][]api.Label{nil}
	for _, name := range []string{"_", "a", "a0", "a_", "aa", "b"} {
		for _, text := range []string{"\x00", "\x00\x00", "\x00\x01", "\x00\xff", "\x01", "\x01\x00", "\x02", "a", "a\x00", "a\x00\x01", "a\x01", "aa", "b", "\xff", "\xff\x00"} {
			for _, x := range l[:min(len(l), 16)] {
				if len(x) == 0 || x[len(x)-1].Name < name {
					l = append(l, append(slices.Clone(x), api.Label{Name: name, Text: text}))
				}
			}
		}
	}
	return l
}

// The keys of sets have the order of the sets, and those of different sets are
// different.
func TestKeys(t *testing.T) {
	l := sets()
	if len(l) < 500 {
		t.Fatalf("only %d sets", len(l))
	}
	for i := range l {
		for j := range l {
			if got, want := cmp.Compare(keyOf(l[i]), keyOf(l[j])), label.Compare(l[i], l[j]); got != want || (want == 0) != (i == j) {
				t.Fatalf("%q and %q: %d, not %d", l[i], l[j], got, want)
			}
		}
	}
}

// A set is made when it is first needed, and dropped when it is empty; it stays
// as long as it has a result.
func TestSets(t *testing.T) {
	g, _ := New(api.GrTotal, []string{"a"})
	at := func(n int) []api.Label {
		return []api.Label{{Name: "a", Text: strconv.Itoa(n % 5)}, {Name: "b", Text: strconv.Itoa(n)}}
	}
	for round := range 3 {
		for n := range 100 {
			g.Set([]api.Change{{Labels: at(n), Value: api.Value{N: int64(n)}}})
			if want := min(n+1, 5); len(g.sets) != want || len(g.in) != n+1 {
				t.Fatalf("%d sets, not %d, %d results", len(g.sets), want, len(g.in))
			}
		}
		for n := range 100 {
			g.Set([]api.Change{{Labels: at(n), Gone: true}})
			if want := min(99-n, 5); len(g.sets) != want || len(g.in) != 99-n {
				t.Fatalf("round %d: %d sets, not %d, %d results", round, len(g.sets), want, len(g.in))
			}
		}
	}
	g.Set([]api.Change{{Labels: at(0)}})
	s := g.sets[keyOf(at(0)[:1])]
	g.Set([]api.Change{{Labels: at(0), Value: api.Value{N: 7}}})
	if s == nil || g.sets[keyOf(at(0)[:1])] != s || s.values.Len() != 1 {
		t.Error("another set, or another number of values")
	}
	g.Set([]api.Change{{Labels: at(1), Value: api.Value{N: 7}}, {Labels: at(1), Gone: true}})
	if len(g.sets) != 1 {
		t.Errorf("%d sets", len(g.sets))
	}
}
