package sample_test

import (
	"math"
	"slices"
	"strconv"
	"strings"
	"testing"

	"waterwheel/api"
	"waterwheel/label"
	"waterwheel/sample"
)

// result returns a result with a number.
func result(n int64, pairs ...string) api.Result {
	return api.Result{Labels: list(pairs...), Value: api.Value{N: n}}
}

// over returns a result that is over.
func over(pairs ...string) api.Result {
	return api.Result{Labels: list(pairs...), Value: api.Value{Over: true}}
}

// wrongValue returns a result whose value is not valid.
func wrongValue(n int64, pairs ...string) api.Result {
	return api.Result{Labels: list(pairs...), Value: api.Value{N: n, Over: true}}
}

// ordered returns a vector of n results.
func ordered(n int) []api.Result {
	var v []api.Result
	for i := range n {
		v = append(v, result(int64(i), "a", strconv.Itoa(10000+i)))
	}
	return v
}

// vectors has vectors whose results are not all equal in size.
func vectors() [][]api.Result {
	return [][]api.Result{
		nil,
		{},
		{result(3)},
		{over()},
		{{Labels: []api.Label{}}},
		{result(1, "a", "x")},
		{over(), result(3, "a", "y")},
		{result(math.MinInt64, "a", "x"), result(math.MaxInt64, "a", "xx")},
		{result(5), result(5, "a", "x"), result(5, "a", "x", "b", "x"), result(5, "a", "x", "c", "x"), result(5, "a", "y")},
		{result(0, "a", "\x00"), result(0, "a", "\xff"), result(0, "aa", "\x00"), result(0, "b", "\x00")},
		{result(1, "a", "z"), over("aa", "a"), result(2, "b", "a"), over("b", "a", "c", "a"), result(9, "c", "a")},
		{{Labels: many(7)}, {Labels: many(8)}, {Labels: most()}},
		ordered(9),
	}
}

// wrongResults has results that are in no vector.
func wrongResults() []api.Result {
	l := []api.Result{
		wrongValue(1), wrongValue(-1, "a", "x"), wrongValue(math.MinInt64, "b", "y"), wrongValue(math.MaxInt64),
	}
	for _, set := range noSets() {
		l = append(l, api.Result{Labels: set}, api.Result{Labels: set, Value: api.Value{Over: true}})
	}
	return l
}

// copyOf returns results that share nothing with v.
func copyOf(v []api.Result) []api.Result {
	own := slices.Clone(v)
	for i := range own {
		own[i].Labels = slices.Clone(own[i].Labels)
	}
	return own
}

// shuffled returns results in an order that looks like chance.
func shuffled(v []api.Result, seed uint64) []api.Result {
	v = copyOf(v)
	for i := range v {
		seed = seed*6364136223846793005 + 1442695040888963407
		j := int(seed >> 33 % uint64(i+1))
		v[i], v[j] = v[j], v[i]
	}
	return v
}

// sameResults reports whether two lists of results are equal.
func sameResults(a, b []api.Result) bool {
	return slices.EqualFunc(a, b, func(x, y api.Result) bool {
		return x.N == y.N && x.Over == y.Over && slices.Equal(x.Labels, y.Labels)
	})
}

// wantVector checks what CheckVector and Sort return of a vector, in several
// orders.
func wantVector(t *testing.T, v []api.Result) {
	t.Helper()
	if e := sample.CheckVector(v); e != api.OK {
		t.Errorf("CheckVector of %v: error %d", v, e)
	}
	for seed := range uint64(6) {
		given := shuffled(v, seed)
		before := copyOf(given)
		if got, e := sample.Sort(given); e != api.OK || !sameResults(got, v) {
			t.Errorf("Sort of %v is %v, error %d", given, got, e)
		}
		want := api.ErrArg
		if sameResults(given, v) {
			want = api.OK
		}
		if e := sample.CheckVector(given); e != want {
			t.Errorf("CheckVector of %v: error %d", given, e)
		}
		if !sameResults(given, before) {
			t.Errorf("%v was changed to %v", before, given)
		}
	}
}

// wantNoVector checks the error of CheckVector, and that of Sort if no order
// makes a vector of v.
func wantNoVector(t *testing.T, v []api.Result, want, wantSorted api.Errno) {
	t.Helper()
	if e := sample.CheckVector(v); e != want {
		t.Errorf("CheckVector of %d results, %v: error %d, not %d", len(v), v[:min(len(v), 9)], e, want)
	}
	got, e := sample.Sort(v)
	if e != wantSorted || (e != api.OK) != (len(got) == 0) {
		t.Errorf("Sort of %d results, %v: error %d, not %d", len(v), v[:min(len(v), 9)], e, wantSorted)
	}
}

// P4.2, P4.3: CheckVector and Sort of vectors; Sort does not depend on the
// order.
func TestVectors(t *testing.T) {
	for _, v := range vectors() {
		wantVector(t, v)
	}
}

// P4.2, P4.3: Sort of each order of five results.
func TestSortEachOrder(t *testing.T) {
	want := []api.Result{over(), result(1, "a", "x"), result(-2, "a", "x", "b", "x"), over("a", "y"), result(4, "b", "x")}
	orders := [][]api.Result{{}}
	for _, x := range want {
		var longer [][]api.Result
		for _, v := range orders {
			for at := range len(v) + 1 {
				longer = append(longer, slices.Insert(slices.Clone(v), at, x))
			}
		}
		orders = longer
	}
	if len(orders) != 120 {
		t.Fatal(len(orders))
	}
	for _, v := range orders {
		if got, e := sample.Sort(v); e != api.OK || !sameResults(got, want) {
			t.Errorf("Sort of %v is %v, error %d", v, got, e)
		}
		if e := sample.CheckVector(v); (e == api.OK) != sameResults(v, want) || e != api.OK && e != api.ErrArg {
			t.Errorf("CheckVector of %v: error %d", v, e)
		}
	}
}

// P4.2: the greatest vector, and one result more, whatever it is.
func TestVectorLimits(t *testing.T) {
	for _, n := range []int{4095, 4096} {
		wantVector(t, ordered(n))
	}
	wantNoVector(t, ordered(4097), api.ErrLong, api.ErrLong)
	wantNoVector(t, make([]api.Result, 4096), api.ErrArg, api.ErrArg)
	wantNoVector(t, make([]api.Result, 4097), api.ErrLong, api.ErrLong)
	wantNoVector(t, make([]api.Result, 10000), api.ErrLong, api.ErrLong)
	for _, x := range wrongResults() {
		wantNoVector(t, append(ordered(4096), x), api.ErrLong, api.ErrLong)
		wantNoVector(t, append(ordered(4095), x), api.ErrArg, api.ErrArg)
	}
	long := ordered(4096)
	for i := range long {
		long[i].Labels = append(long[i].Labels, most()[:7]...)
	}
	wantNoVector(t, shuffled(long, 1), api.ErrArg, api.OK)
	wantVector(t, long)
}

// P4.2: a result that is in no vector, at each place.
func TestWrongResults(t *testing.T) {
	for _, x := range wrongResults() {
		for n := range 6 {
			for at := range n + 1 {
				wantNoVector(t, slices.Insert(ordered(n), at, x), api.ErrArg, api.ErrArg)
			}
		}
		wantNoVector(t, []api.Result{x, x}, api.ErrArg, api.ErrArg)
	}
}

// P4.2: two results out of order, or with the same labels, at each place.
func TestVectorOrder(t *testing.T) {
	for _, v := range vectors() {
		for i := range v {
			for j := range i {
				swapped := copyOf(v)
				swapped[i], swapped[j] = swapped[j], swapped[i]
				wantNoVector(t, swapped, api.ErrArg, api.OK)
				double := copyOf(v)
				double[i].Labels = v[j].Labels
				wantNoVector(t, double, api.ErrArg, api.ErrArg)
			}
			for at := range len(v) + 1 {
				again := slices.Insert(copyOf(v), at, v[i])
				wantNoVector(t, again, api.ErrArg, api.ErrArg)
				again[at].Value = api.Value{N: 77}
				wantNoVector(t, again, api.ErrArg, api.ErrArg)
			}
		}
	}
	wantNoVector(t, []api.Result{{}, {Labels: []api.Label{}}}, api.ErrArg, api.ErrArg)
	wantNoVector(t, append(ordered(4095), ordered(1)...), api.ErrArg, api.ErrArg)
	wantNoVector(t, shuffled(append(ordered(4095), ordered(4000)[3999]), 1), api.ErrArg, api.ErrArg)
}

// P4.2 with rule 3: what Sort returns is new memory: it shares none with its
// argument, and no two lists of it share any.
func TestSortSharesNothing(t *testing.T) {
	spare := list("a", "x", "b", "y", "c", "z")
	whole := []api.Result{result(2, "b", "y"), {Labels: spare[:1:3]}, {Labels: spare[:0]}, over("c", "z"), result(9, "q", "q")}
	sparesBefore, wholeBefore := slices.Clone(spare), copyOf(whole)
	got, e := sample.Sort(whole[:4])
	if e != api.OK || len(got) != 4 {
		t.Fatal(got, e)
	}
	for i, x := range got {
		l := x.Labels[:cap(x.Labels)]
		for j := range l {
			l[j] = api.Label{Name: "changed", Text: strconv.Itoa(i)}
		}
	}
	for i, x := range got {
		for _, y := range x.Labels[:cap(x.Labels)] {
			if y.Text != strconv.Itoa(i) {
				t.Errorf("the labels of result %d are those of %s", i, y.Text)
			}
		}
	}
	clear(got[:cap(got)])
	if !slices.Equal(spare, sparesBefore) || !sameResults(whole, wholeBefore) {
		t.Errorf("Sort returned what it was given: %v, %v", spare, whole)
	}
}

// anyLists has lists of results of all kinds, all of them different.
func anyLists() [][]api.Result {
	l := append(vectors()[1:],
		[]api.Result{result(3, "a", "y"), over()},
		[]api.Result{result(3), result(3)},
		[]api.Result{result(3), result(4)},
		[]api.Result{result(4), result(3)},
		[]api.Result{result(3, "b", "x", "a", "y")},
		[]api.Result{result(3, "a", "y", "b", "x")},
		[]api.Result{result(3, "b", "x", "a", "y"), result(4, "b", "x", "a", "y")},
		[]api.Result{result(3, "a", "")},
		[]api.Result{result(3, "a", ""), result(4)},
		[]api.Result{result(3, "", "a")},
		[]api.Result{wrongValue(5)},
		[]api.Result{wrongValue(6)},
		[]api.Result{wrongValue(6, "a", "y"), result(1)},
		[]api.Result{result(1, "b", "x"), result(2, "a", "x"), result(3, "b", "x"), result(4, "a", "x")},
		append(ordered(9), over("a", "10004")),
		append(ordered(4096), result(-1)),
	)
	for _, x := range wrongResults()[4:] {
		l = append(l, []api.Result{result(1, "a", "x"), x, result(2), {Labels: x.Labels, Value: api.Value{N: 3}}})
	}
	return l
}

// P4.2: Same.
func TestSame(t *testing.T) {
	if !sample.Same(nil, nil) || !sample.Same(nil, []api.Result{}) || !sample.Same([]api.Result{}, nil) {
		t.Error("nothing is not the same as nothing")
	}
	empty := []api.Result{{Labels: []api.Label{}}}
	if !sample.Same(empty, make([]api.Result, 1)) || !sample.Same(make([]api.Result, 1), empty) {
		t.Error("no labels are not the same as no labels")
	}
	all := append(anyLists(), ordered(4096), ordered(8), ordered(4096)[1:])
	for i, a := range all {
		for j, b := range all {
			if got := sample.Same(a, copyOf(b)); got != (i == j) {
				t.Errorf("Same of %d and %d results, %v and %v: %v", len(a), len(b), a[:min(len(a), 9)], b[:min(len(b), 9)], got)
			}
		}
	}
}

// P4.2: Same, with each part of a result changed at each place.
func TestSameChanged(t *testing.T) {
	changes := []func(x *api.Result){
		func(x *api.Result) { x.N++ },
		func(x *api.Result) { x.N += 1 << 40 },
		func(x *api.Result) { x.Over = !x.Over },
		func(x *api.Result) { x.Labels = append(slices.Clip(x.Labels), api.Label{Name: "z", Text: "z"}) },
		func(x *api.Result) { x.Labels = append(list("0", "z"), x.Labels...) },
	}
	for at := range 8 {
		changes = append(changes, func(x *api.Result) {
			if at < len(x.Labels) {
				x.Labels[at].Name += "z"
			} else {
				x.N--
			}
		}, func(x *api.Result) {
			if at < len(x.Labels) {
				x.Labels[at].Text += "z"
			} else {
				x.Over = !x.Over
			}
		})
	}
	for _, v := range anyLists() {
		for at := range min(len(v), 9) {
			for i, change := range changes {
				other := copyOf(v)
				change(&other[at])
				if sample.Same(v, other) || sample.Same(other, v) {
					t.Errorf("change %d at %d of %v is the same", i, at, v[:min(len(v), 9)])
				}
			}
		}
	}
}

// wantFound checks Find against its definition.
func wantFound(t *testing.T, v []api.Result, l []api.Label) {
	t.Helper()
	want, is := api.Value{}, false
	for _, x := range v {
		if slices.Equal(x.Labels, l) {
			want, is = x.Value, true
			break
		}
	}
	if got, ok := sample.Find(v, l); got != want || ok != is {
		t.Errorf("Find of %q in %d results, %v: %v, %v", l, len(v), v[:min(len(v), 9)], got, ok)
	}
}

// P4.2: Find of all labels in lists of all kinds.
func TestFind(t *testing.T) {
	sought := slices.Concat(sets(), noSets())
	for _, v := range anyLists() {
		for _, x := range v[:min(len(v), 9)] {
			sought = append(sought, x.Labels)
		}
	}
	for _, v := range append(anyLists(), nil) {
		for _, l := range sought {
			wantFound(t, v, l)
		}
	}
}

// P4.2: Find of each result of a great vector, of labels between them, and of
// the first one of those with the same labels.
func TestFindInLongLists(t *testing.T) {
	v := ordered(500)
	for i := range v {
		wantFound(t, v, v[i].Labels)
		wantFound(t, v, list("a", v[i].Labels[0].Text+"x"))
		wantFound(t, v, list("a", v[i].Labels[0].Text, "b", "x"))
		wantFound(t, v, list("b", v[i].Labels[0].Text))
	}
	for _, v := range [][]api.Result{ordered(4096), ordered(4097), append(ordered(4000), ordered(4000)...)} {
		for _, at := range []int{0, 1, 2048, len(v) - 2, len(v) - 1} {
			wantFound(t, v, v[at].Labels)
		}
		wantFound(t, v, nil)
		wantFound(t, v, list("a", "z"))
	}
	double := []api.Result{result(1, "a", "x"), over("a", "x"), result(3, "a", "x")}
	if got, is := sample.Find(double, list("a", "x")); !is || got != (api.Value{N: 1}) {
		t.Error(got, is)
	}
	if got, is := sample.Find(double[1:], list("a", "x")); !is || got != (api.Value{Over: true}) {
		t.Error(got, is)
	}
}

// P4.2 with rule 3: the other calls change nothing.
func TestVectorChangesNothing(t *testing.T) {
	for _, v := range anyLists() {
		before := copyOf(v)
		for _, l := range [][]api.Label{nil, list("b", "x", "a", "y"), list("a", "y")} {
			sought := slices.Clone(l)
			sample.Find(v, l)
			if !slices.Equal(l, sought) {
				t.Errorf("%q was changed to %q", sought, l)
			}
		}
		sample.CheckVector(v)
		sample.Same(v, before)
		sample.Lines(v)
		if !sameResults(v, before) {
			t.Errorf("%v was changed", before)
		}
	}
}

// P4.2: Lines.
func TestLines(t *testing.T) {
	for _, c := range []struct {
		v    []api.Result
		want string
	}{
		{nil, ""},
		{[]api.Result{}, ""},
		{[]api.Result{{}}, "{} 0\n"},
		{[]api.Result{over(), result(3, "a", "y")}, "{} over\n{a=\"y\"} 3\n"},
		{[]api.Result{result(-7, "b", "x"), result(10, "a", "y")}, "{b=\"x\"} -7\n{a=\"y\"} 10\n"},
		{[]api.Result{result(1, "a", "y"), result(1, "a", "y")}, "{a=\"y\"} 1\n{a=\"y\"} 1\n"},
		{[]api.Result{result(math.MaxInt64), result(math.MinInt64)}, "{} 9223372036854775807\n{} -9223372036854775808\n"},
		{[]api.Result{result(0, "a", "\n\"\\", "b", "over")}, `{a="\x0a\"\\",b="over"} 0` + "\n"},
		{[]api.Result{result(100, "b", "x", "a", "y"), over("a", ""), result(-1, "A", "x"), result(2, "a", "x")}, " 100\n over\n -1\n{a=\"x\"} 2\n"},
		{[]api.Result{wrongValue(5), wrongValue(-5, "a", "x")}, "{} over\n{a=\"x\"} over\n"},
		{[]api.Result{{Labels: many(9), Value: api.Value{N: 4}}, {Labels: many(8), Value: api.Value{N: 5}}}, " 4\n" + label.Text(many(8)) + " 5\n"},
	} {
		if got := sample.Lines(c.v); got != c.want {
			t.Errorf("Lines of %v is %q", c.v, got)
		}
	}
	for _, x := range wrongResults()[4:] {
		if got := sample.Lines([]api.Result{x}); got != " 0\n" && got != " over\n" || (got == " over\n") != x.Over {
			t.Errorf("Lines of %v is %q", x, got)
		}
	}
}

// P4.2: Lines of more results than a vector has.
func TestLinesLong(t *testing.T) {
	var want strings.Builder
	for i := range 5000 {
		want.WriteString(`{a="` + strconv.Itoa(10000+i) + `"} ` + strconv.Itoa(i) + "\n")
	}
	if got := sample.Lines(ordered(5000)); got != want.String() {
		t.Errorf("%d bytes, not %d", len(got), want.Len())
	}
}
