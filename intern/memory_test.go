package intern_test

import (
	"slices"
	"testing"

	"waterwheel/api"
	"waterwheel/ast"
	"waterwheel/intern"
)

// Rule 3: a series that was put is not kept, nor changed, nor is its spare
// capacity.
func TestPutMemory(t *testing.T) {
	all := series("a", "b", "c", "d", "e", "f", "g").Labels
	given := api.Series{Metric: "a", Labels: all[:2]}
	want := reference{series("a", "b", "c", "d", "e"), series("x", "b", "c")}
	x := filled(t, given, want[1])
	x.Find(given)
	x.Put(given)
	if !slices.Equal(all, series("a", "b", "c", "d", "e", "f", "g").Labels) {
		t.Errorf("the labels changed: %q", all)
	}
	for i := range all {
		all[i] = api.Label{Name: "z", Text: "z"}
	}
	check(t, x, want)
	checkWith(t, x, want, []string{"b", "d", "f", "z"}, []string{"", "c", "e", "g", "z"})
}

// Rule 3: what Series returns is new memory.
func TestSeriesMemory(t *testing.T) {
	want := reference{series("a", "b", "c", "d", "e"), series("a", "b", "c")}
	x := filled(t, want...)
	first, _ := x.Series(1)
	again, _ := x.Series(1)
	spoil(first.Labels, api.Label{Name: "z", Text: "z"})
	if !same(again, want[0]) {
		t.Errorf("the other result changed: %q", again)
	}
	check(t, x, want)
	checkWith(t, x, want, []string{"b", "d", "z"}, []string{"", "c", "e", "z"})
}

// spoil overwrites a list and its spare capacity.
func spoil[E any](l []E, by E) {
	l = l[:cap(l)]
	for i := range l {
		l[i] = by
	}
}

// Rule 3: what Takes, With and Bytes return is new memory, and stays as it was.
func TestListMemory(t *testing.T) {
	r := reference(many(50))
	x := filled(t, r...)
	calls := []func() []int{
		func() []int { return x.Takes(window("m0")) },
		func() []int { return x.Takes(window("m0", is("b", "3"))) },
		func() []int { return x.Takes(window("m0", not("b", "3"))) },
		func() []int { return x.Takes(window("m1", is("c", ""))) },
		func() []int { return x.Takes(window("m2", not("b", ""), not("c", "x"))) },
		func() []int { return x.With("b", "3") },
		func() []int { return x.With("a", "7") },
		func() []int { return x.With("b", "") },
		func() []int { return x.With("c", "") },
	}
	var before, lists [][]int
	for _, call := range calls {
		l := call()
		before, lists = append(before, slices.Clone(l)), append(lists, l, call())
	}
	for i, l := range lists {
		spoil(l, -1)
		for j := i + 1; j < len(lists); j++ {
			if !slices.Equal(lists[j], before[j/2]) {
				t.Fatalf("list %d changed with list %d", j, i)
			}
		}
	}
	spoil(x.Bytes(), 255)
	for i, call := range calls {
		if l := call(); !slices.Equal(l, before[i]) {
			t.Fatalf("list %d changed: %v", i, l)
		}
	}
	check(t, x, r)
	kept := x.With("b", "3")
	r.put(series("new", "b", "3"))
	x.Put(series("new", "b", "3"))
	if !slices.Equal(kept, before[5]) {
		t.Errorf("the list changed: %v", kept)
	}
	check(t, x, r)
}

// Rule 3: the expression of Takes and the bytes of Read are neither changed nor
// kept.
func TestArguments(t *testing.T) {
	r := reference(many(50))
	x := filled(t, r...)
	e := window("m0", not("b", "3"), is("b", "3"), is("c", ""), not("a", ""))
	before := ast.Copy(e)
	x.Takes(e)
	if !ast.Same(e, before) {
		t.Errorf("the expression changed: %v", e)
	}
	spare := append(x.Bytes(), 9, 9)
	b := spare[:len(spare)-2]
	y, f := intern.Read(b)
	if f != api.OK || string(b) != r.bytes() || !slices.Equal(spare[len(b):], []byte{9, 9}) {
		t.Fatalf("the bytes changed, or error %d", f)
	}
	spoil(b, 255)
	check(t, y, r)
	checkWith(t, y, r, []string{"a", "b", "c"}, []string{"", "0", "3"})
}
