package join_test

import (
	"fmt"
	"slices"
	"strings"
	"testing"

	"waterwheel/api"
	"waterwheel/join"
	"waterwheel/sample"
)

// spoil overwrites a list and its spare capacity.
func spoil[E any](l []E, by E) {
	l = l[:cap(l)]
	for i := range l {
		l[i] = by
	}
}

// noLabel is a label that is in no set.
func noLabel() api.Label {
	return api.Label{Name: "spoilt", Text: strings.Repeat("spoilt", 99)}
}

// roomy returns l with spare capacity, in which there are other elements.
func roomy[E any](l []E, spare ...E) []E {
	return slices.Concat(l, spare)[: len(l) : len(l)+len(spare)]
}

// roomyChanges returns changes with spare capacity everywhere.
func roomyChanges(l []api.Change) []api.Change {
	l = roomy(l, putOver("spare", "x"), gone("spare", "y"))
	for i := range l {
		l[i].Labels = roomy(l[i].Labels, noLabel(), noLabel())
	}
	return l
}

// dump returns all that a list has, with its spare capacity and that of its
// labels.
func dump[E any](l []E, labels func(E) []api.Label) string {
	var b strings.Builder
	for _, x := range l[:cap(l)] {
		s := labels(x)
		fmt.Fprintf(&b, "%v %q\n", x, s[:cap(s)])
	}
	return b.String()
}

// ofChange and ofResult return labels.
func ofChange(c api.Change) []api.Label { return c.Labels }
func ofResult(x api.Result) []api.Label { return x.Labels }

// apart checks that no two lists of l share memory, and spoils them.
func apart[E any](t *testing.T, l []E, labels func(E) []api.Label) {
	t.Helper()
	for i, x := range l {
		before := dump(l[i+1:], labels)
		spoil(labels(x), noLabel())
		if dump(l[i+1:], labels) != before {
			t.Fatalf("labels share memory with those of element %d", i)
		}
	}
	var none E
	spoil(l, none)
}

// Rule 3: what is returned is new memory, and stays as it was; what is given is
// neither changed nor kept.
func TestMemory(t *testing.T) {
	d := dice(3)
	for range 80 {
		op, names := 1+d.of(3), d.names()
		given := roomy(names, "spare", "spare")
		j, _ := join.New(op, given)
		if !slices.Equal(given[:cap(given)], append(slices.Clone(names), "spare", "spare")) {
			t.Fatalf("the names changed: %q", given[:cap(given)])
		}
		spoil(given, "z")
		x := &pair{j, reference{op: op, names: names}}
		for range 6 {
			x.setMemory(t, d.side(), d.changes(20))
			x.checkMemory(t)
			x.again(t)
			x.checkMemory(t)
		}
	}
}

// setMemory sets changes, and checks that they are neither changed nor kept, and
// that what is returned is new.
func (x *pair) setMemory(t *testing.T, side int, l []api.Change) {
	t.Helper()
	given := roomyChanges(l)
	before := dump(given, ofChange)
	got, e := x.j.Set(side, given)
	want, _ := x.r.set(side, l)
	if e != api.OK || !sameChanges(got, want) || dump(given, ofChange) != before {
		t.Fatalf("error %d and %s, not %s, or the changes changed", e, short(got), short(want))
	}
	for i := range given {
		spoil(given[i].Labels, noLabel())
	}
	if !sameChanges(got, want) {
		t.Fatal("the result shares memory with the changes")
	}
	spoil(given, putOver("spoilt", "x"))
	apart(t, got, ofChange)
	x.check(t)
}

// results returns all results that a join returns.
func results(j *join.Join) [][]api.Result {
	return [][]api.Result{j.Vector(), j.Many(), j.In(1), j.In(2)}
}

// checkMemory checks that nothing that was returned or given is kept.
func (x *pair) checkMemory(t *testing.T) {
	t.Helper()
	lists, again, b := results(x.j), results(x.j), x.j.Bytes()
	want := [][]api.Result{x.r.vector(), x.r.many(), copyOf(x.r.in[0]), copyOf(x.r.in[1])}
	given := []byte(roomy(b, 9, 9))
	j, e := join.Read(given)
	if e != api.OK || string(given[:cap(given)]) != x.r.bytes()+"\x09\x09" {
		t.Fatalf("the bytes changed, or error %d", e)
	}
	for _, v := range lists {
		apart(t, v, ofResult)
	}
	spoil(b, 255)
	spoil(given, 255)
	if !slices.EqualFunc(again, want, sample.Same) {
		t.Fatal("the other results changed")
	}
	x.check(t)
	other := pair{j, x.r}
	other.check(t)
	other.set(t, 1, put(1, "a", "y"), gone("a", "x"), putOver())
	other.set(t, 2, put(1, "a", "y"), putOver("a", "x"), gone())
	other.check(t)
	if !slices.EqualFunc(again, want, sample.Same) {
		t.Fatal("the other results changed later")
	}
	x.check(t)
}
