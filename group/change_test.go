package group_test

import (
	"fmt"
	"math"
	"slices"
	"strings"
	"testing"

	"waterwheel/api"
	"waterwheel/group"
	"waterwheel/sample"
)

// wantChanges checks the Changes from a to b.
func wantChanges(t *testing.T, a, b []api.Result, want ...api.Change) {
	t.Helper()
	if l := group.Changes(a, b); !sameChanges(l, want) {
		t.Errorf("from %s to %s: %s, not %s", short(a), short(b), short(l), short(want))
	}
}

// wantApplied checks the vector that Apply returns.
func wantApplied(t *testing.T, v []api.Result, l []api.Change, want ...api.Result) {
	t.Helper()
	if got, e := group.Apply(v, l); e != api.OK || !sample.Same(got, want) {
		t.Errorf("%s after %s: error %d and %s, not %s", short(v), short(l), e, short(got), short(want))
	}
}

// wantError checks an error of Apply, beside which there is no vector.
func wantError(t *testing.T, v []api.Result, l []api.Change, want api.Errno) {
	t.Helper()
	if got, e := group.Apply(v, l); e != want || len(got) != 0 {
		t.Errorf("%s after %s: error %d, not %d, and %d results", short(v), short(l), e, want, len(got))
	}
}

// A wrong is a change that is not valid, and the error of CheckChange.
type wrong struct {
	c    api.Change
	want api.Errno
}

// eight are as many labels as there may be.
func eight() []api.Label {
	return list("a", "x", "b", "x", "c", "x", "d", "x", "e", "x", "f", "x", "g", "x", "h", "x")
}

// wrongs has a change for each way in which one is not valid.
func wrongs() (l []wrong) {
	nine := append(eight(), api.Label{Name: "i", Text: "x"})
	for _, labels := range [][]api.Label{
		list("A", "x"), list("", "x"), list("1", "x"), list("a-b", "x"), list(strings.Repeat("a", 25), "x"),
		list("a", ""), list("a", strings.Repeat("x", 65)), list("b", "x", "a", "x"), list("a", "x", "a", "x"), list("a", "x", "a", "y"),
		list("a", "x", "b", ""), list("b", "x", "aa", "x"), append(slices.Clone(eight()[:7]), api.Label{Name: "g", Text: "y"}),
	} {
		l = append(l, wrong{api.Change{Labels: labels}, api.ErrArg})
	}
	for _, labels := range [][]api.Label{nine, make([]api.Label, 9), slices.Repeat(list("A", "x"), 100)} {
		l = append(l, wrong{api.Change{Labels: labels}, api.ErrLong})
	}
	// The error of the labels is the same, whatever else is wrong.
	for _, x := range l {
		for _, v := range []api.Value{{N: 5}, {Over: true}, {N: -1, Over: true}} {
			c := x.c
			c.Value = v
			l = append(l, wrong{c, x.want})
			c.Gone = true
			l = append(l, wrong{c, x.want})
		}
	}
	for _, labels := range [][]api.Label{nil, {}, list("a", "x"), eight()} {
		for _, n := range []int64{1, -1, math.MinInt64, math.MaxInt64} {
			l = append(l, wrong{api.Change{Labels: labels, Value: api.Value{N: n, Over: true}}, api.ErrArg},
				wrong{api.Change{Labels: labels, Value: api.Value{N: n, Over: true}, Gone: true}, api.ErrArg},
				wrong{api.Change{Labels: labels, Value: api.Value{N: n}, Gone: true}, api.ErrArg})
		}
		l = append(l, wrong{api.Change{Labels: labels, Value: api.Value{Over: true}, Gone: true}, api.ErrArg})
	}
	return l
}

// P15.1: CheckChange.
func TestCheckChange(t *testing.T) {
	for _, labels := range [][]api.Label{
		nil, {}, list("a", "x"), list("aa", "x", "b", "x"), eight(),
		list(strings.Repeat("_", 24), strings.Repeat("\x00", 64)), list("a0", "\xff\"\n"),
	} {
		for _, n := range []int64{0, 1, -1, math.MinInt64, math.MaxInt64} {
			if e := group.CheckChange(api.Change{Labels: labels, Value: api.Value{N: n}}); e != api.OK {
				t.Errorf("%q, %d: error %d", labels, n, e)
			}
		}
		if e := group.CheckChange(api.Change{Labels: labels, Value: api.Value{Over: true}}); e != api.OK {
			t.Errorf("%q, over: error %d", labels, e)
		}
		if e := group.CheckChange(api.Change{Labels: labels, Gone: true}); e != api.OK {
			t.Errorf("%q, gone: error %d", labels, e)
		}
	}
	for _, x := range wrongs() {
		if e := group.CheckChange(x.c); e != x.want {
			t.Errorf("%v: error %d, not %d", x.c, e, x.want)
		}
	}
}

// P15.1: the Changes between vectors, in the order of labels, which is not that
// of their keys.
func TestChanges(t *testing.T) {
	a := []api.Result{
		result(1), result(2, "a", "x"), result(3, "a", "x", "b", "1"), result(4, "a", "xx"), over("a", "y"), result(5, "aa", "x"), result(0, "b", "x"),
	}
	b := []api.Result{
		over(), result(2, "a", "x"), result(0, "a", "x", "a0", "1"), result(4, "a", "xx", "b", "1"), result(0, "a", "y"), result(6, "aa", "x"), over("b", "x"), result(9, "c", "x"),
	}
	wantChanges(t, a, b, putOver(), put(0, "a", "x", "a0", "1"), gone("a", "x", "b", "1"), gone("a", "xx"),
		put(4, "a", "xx", "b", "1"), put(0, "a", "y"), put(6, "aa", "x"), putOver("b", "x"), put(9, "c", "x"))
	wantChanges(t, b, a, put(1), gone("a", "x", "a0", "1"), put(3, "a", "x", "b", "1"), put(4, "a", "xx"),
		gone("a", "xx", "b", "1"), putOver("a", "y"), put(5, "aa", "x"), put(0, "b", "x"), gone("c", "x"))
	wantChanges(t, nil, a[2:6], put(3, "a", "x", "b", "1"), put(4, "a", "xx"), putOver("a", "y"), put(5, "aa", "x"))
	wantChanges(t, a[2:6], []api.Result{}, gone("a", "x", "b", "1"), gone("a", "xx"), gone("a", "y"), gone("aa", "x"))
	wantChanges(t, a, a)
	wantChanges(t, a, copyOf(a))
	wantChanges(t, nil, nil)
	wantChanges(t, nil, []api.Result{})
	wantChanges(t, []api.Result{result(0)}, nil, gone())
	wantChanges(t, nil, []api.Result{result(0)}, put(0))
	wantChanges(t, []api.Result{result(0)}, []api.Result{over()}, putOver())
}

// An invalid is a list that is no vector, and the error of sample.CheckVector.
type invalid struct {
	v    []api.Result
	want api.Errno
}

// invalids has a list for each way in which one is not a vector.
func invalids() (l []invalid) {
	long := many(4097)
	long[0].Value = api.Value{N: 1, Over: true}
	for _, v := range [][]api.Result{many(4097), long, make([]api.Result, 5000)} {
		l = append(l, invalid{v, api.ErrLong})
	}
	for _, v := range [][]api.Result{
		{result(1), {Value: api.Value{N: 1, Over: true}}},
		{{Value: api.Value{N: -1, Over: true}}},
		{result(1), result(1)}, {result(1, "a", "x"), result(1)},
		{result(1, "a", "x"), result(2, "a", "x")}, {result(1, "a", "y"), result(2, "a", "x")},
		{result(1, "b", "x"), result(2, "aa", "x")}, {result(1, "a", "y"), result(2, "a", "xx")},
		{result(1, "A", "x")}, {result(1), result(1, "a", "")}, {result(1, "a", strings.Repeat("x", 65))},
		{result(1, "b", "x", "a", "x")}, {{Labels: make([]api.Label, 9)}},
	} {
		l = append(l, invalid{v, api.ErrArg})
	}
	return l
}

// P15.1: the Changes of what is no vector.
func TestChangesOfNoVector(t *testing.T) {
	for _, x := range invalids() {
		for _, v := range [][]api.Result{nil, {result(7)}, many(3), x.v} {
			wantChanges(t, x.v, v)
			wantChanges(t, v, x.v)
		}
	}
}

// P15.1: Apply changes in their order.
func TestApply(t *testing.T) {
	v := []api.Result{result(1), result(2, "a", "x"), over("aa", "x"), result(4, "b", "x")}
	wantApplied(t, v, nil, v...)
	wantApplied(t, v, []api.Change{}, v...)
	wantApplied(t, nil, nil)
	wantApplied(t, nil, []api.Change{gone(), gone("a", "x")})
	wantApplied(t, v, []api.Change{gone("c", "x"), gone("a", "y"), gone("a", "x", "b", "x")}, v...)
	wantApplied(t, v, []api.Change{put(2, "a", "x"), putOver("aa", "x")}, v...)
	wantApplied(t, v, []api.Change{put(0, "aa", "x"), putOver("a", "x"), put(0)}, result(0), over("a", "x"), result(0, "aa", "x"), v[3])
	wantApplied(t, v, []api.Change{put(7, "b", "y"), put(5, "a", "x", "b", "y"), put(6, "ab", "x"), put(8, "a", "xx")},
		v[0], v[1], result(5, "a", "x", "b", "y"), result(8, "a", "xx"), v[2], result(6, "ab", "x"), v[3], result(7, "b", "y"))
	wantApplied(t, v, []api.Change{gone("b", "x"), gone(), gone("aa", "x"), gone("a", "x")})
	wantApplied(t, v[:1], []api.Change{put(5), put(6), put(7)}, result(7))
	wantApplied(t, v[:1], []api.Change{put(7), put(6), put(5)}, result(5))
	wantApplied(t, v[:1], []api.Change{gone(), put(5)}, result(5))
	wantApplied(t, v[:1], []api.Change{put(5), gone()})
	wantApplied(t, v[:1], []api.Change{gone(), put(5), gone()})
	wantApplied(t, nil, []api.Change{put(5, "a", "x"), put(6), gone("a", "x"), put(7, "a", "x"), gone()}, result(7, "a", "x"))
}

// P15.1: the errors of Apply, and which one comes first.
func TestApplyErrors(t *testing.T) {
	for _, x := range wrongs() {
		for _, v := range [][]api.Result{nil, {result(1)}} {
			wantError(t, v, []api.Change{x.c}, x.want)
			wantError(t, v, []api.Change{put(1), gone("a", "b"), x.c, put(1)}, x.want)
			for _, y := range wrongs()[:40] {
				wantError(t, v, []api.Change{x.c, put(1), y.c}, x.want)
				wantError(t, v, []api.Change{y.c, x.c, gone()}, y.want)
			}
		}
	}
	for _, x := range invalids() {
		wantError(t, x.v, nil, x.want)
		wantError(t, x.v, refChanges(x.v, nil)[:1], x.want)
		for _, y := range wrongs()[:40] {
			wantError(t, x.v, []api.Change{y.c}, x.want)
		}
	}
	for _, x := range wrongs() {
		wantError(t, many(4096), []api.Change{put(1, "c", "x"), x.c}, x.want)
	}
}

// P15.1: Apply with as many results as there may be, and more.
func TestApplyLong(t *testing.T) {
	v := many(4096)
	all := refChanges(nil, v)
	wantApplied(t, nil, all, v...)
	wantApplied(t, v, all, v...)
	wantApplied(t, v[:100], slices.Concat(all, all), v...)
	wantApplied(t, v, refChanges(v, nil))
	wantError(t, nil, refChanges(nil, many(4097)), api.ErrLong)
	wantError(t, v[1:], []api.Change{put(1), put(2, "c", "x")}, api.ErrLong)
	wantError(t, v, []api.Change{put(1)}, api.ErrLong)
	wantError(t, v, []api.Change{gone("a", "x"), put(1)}, api.ErrLong)
	wantError(t, v, []api.Change{all[0], all[1], putOver()}, api.ErrLong)
	wantApplied(t, v[1:], []api.Change{put(1), put(2)}, append([]api.Result{result(2)}, v[1:]...)...)
	wantApplied(t, v, []api.Change{gone("a", "x"), gone()}, v...)
	// It is the result that has a limit, not what is there in between.
	wantApplied(t, v, []api.Change{put(1), gone()}, v...)
	wantApplied(t, v, []api.Change{put(1), {Labels: v[7].Labels, Gone: true}}, append([]api.Result{result(1)}, slices.Delete(copyOf(v), 7, 8)...)...)
	wantApplied(t, v, slices.Concat(refChanges(nil, []api.Result{result(1), result(2, "c", "x")}), refChanges(v, nil)), result(1), result(2, "c", "x"))
}

// P15.1: Changes and Apply of vectors that look like chance.
func TestChangesByChance(t *testing.T) {
	d := dice(1)
	for range 20000 {
		v, w, l := d.vector(20), d.vector(20), d.changes(15)
		wantChanges(t, v, w, refChanges(v, w)...)
		wantApplied(t, v, l, refApply(v, l)...)
		if t.Failed() {
			t.FailNow()
		}
	}
}

// P15.1: the Changes of great vectors.
func TestChangesLong(t *testing.T) {
	v := many(4096)
	w := copyOf(v)
	for i := range w {
		if i%3 == 0 {
			w[i].N++
		}
	}
	for _, x := range [][]api.Result{nil, v[:1], v[1:], v[1000:3000], w, w[:4000], {result(7, "b", "x")}} {
		wantChanges(t, v, x, refChanges(v, x)...)
		wantChanges(t, x, v, refChanges(x, v)...)
	}
}

// spoil overwrites a list and its spare capacity.
func spoil[E any](l []E, by E) {
	l = l[:cap(l)]
	for i := range l {
		l[i] = by
	}
}

// noLabel is a label that is in no set.
func noLabel() api.Label {
	return api.Label{Name: "spoilt", Text: strings.Repeat("spoilt", 99)}
}

// roomy returns l with spare capacity, in which there are other elements.
func roomy[E any](l []E, spare ...E) []E {
	return slices.Concat(l, spare)[: len(l) : len(l)+len(spare)]
}

// roomyChanges returns changes with spare capacity everywhere.
func roomyChanges(l []api.Change) []api.Change {
	l = roomy(l, putOver("spare", "x"), gone("spare", "y"))
	for i := range l {
		l[i].Labels = roomy(l[i].Labels, noLabel(), noLabel())
	}
	return l
}

// roomyResults returns results with spare capacity everywhere.
func roomyResults(v []api.Result) []api.Result {
	v = roomy(v, over("spare", "x"), result(9))
	for i := range v {
		v[i].Labels = roomy(v[i].Labels, noLabel(), noLabel())
	}
	return v
}

// dump returns all that a list has, with its spare capacity and that of its
// labels.
func dump[E any](l []E, labels func(E) []api.Label) string {
	var b strings.Builder
	for _, x := range l[:cap(l)] {
		s := labels(x)
		fmt.Fprintf(&b, "%v %q\n", x, s[:cap(s)])
	}
	return b.String()
}

// ofChange and ofResult return labels.
func ofChange(c api.Change) []api.Label { return c.Labels }
func ofResult(x api.Result) []api.Label { return x.Labels }

// apartChanges checks that no two lists of l share memory, and spoils them.
func apartChanges(t *testing.T, l []api.Change) {
	t.Helper()
	for i := range l {
		before := dump(l[i+1:], ofChange)
		spoil(l[i].Labels, noLabel())
		if dump(l[i+1:], ofChange) != before {
			t.Fatalf("labels share memory with those of change %d", i)
		}
	}
	spoil(l, putOver("spoilt", "x"))
}

// apartResults is apartChanges for results.
func apartResults(t *testing.T, v []api.Result) {
	t.Helper()
	for i := range v {
		before := dump(v[i+1:], ofResult)
		spoil(v[i].Labels, noLabel())
		if dump(v[i+1:], ofResult) != before {
			t.Fatalf("labels share memory with those of result %d", i)
		}
	}
	spoil(v, over("spoilt", "x"))
}

// Rule 3 with P15.1: results are new memory, and no argument is changed, its
// spare capacity included.
func TestChangesMemory(t *testing.T) {
	d := dice(5)
	for range 300 {
		v, w, l := roomyResults(d.vector(12)), roomyResults(d.vector(12)), roomyChanges(d.changes(12))
		beforeV, beforeW, beforeL := dump(v, ofResult), dump(w, ofResult), dump(l, ofChange)
		for range 2 {
			c := group.Changes(v, w)
			applied, _ := group.Apply(v, l)
			if !sameChanges(c, refChanges(v, w)) || !sample.Same(applied, refApply(v, l)) {
				t.Fatal("another result")
			}
			apartChanges(t, c)
			apartResults(t, applied)
		}
		if dump(v, ofResult) != beforeV || dump(w, ofResult) != beforeW || dump(l, ofChange) != beforeL {
			t.Fatal("an argument changed")
		}
	}
}
