package batch_test

import (
	"math"
	"reflect"
	"slices"
	"strconv"
	"strings"
	"testing"

	"waterwheel/api"
	"waterwheel/batch"
	"waterwheel/sample"
)

// wantVector checks a vector without an error.
func wantVector(t *testing.T, what string, v []api.Result, e api.Errno, want []api.Result) {
	t.Helper()
	if e != api.OK || !sample.Same(v, want) {
		t.Errorf("%s: error %d and\n%snot\n%s", what, e, sample.Lines(v), sample.Lines(want))
	}
}

// wantError checks an error, beside which there is no vector.
func wantError(t *testing.T, what string, v []api.Result, e, want api.Errno) {
	t.Helper()
	if e != want || len(v) != 0 {
		t.Errorf("%s: error %d, not %d, and %d results", what, e, want, len(v))
	}
}

// P10.1: Group of each function.
func TestGroup(t *testing.T) {
	v := []api.Result{
		result(100),
		result(1, "a", "x", "b", "1"), result(5, "a", "x", "b", "2"), over("a", "x", "c", "1"),
		result(math.MaxInt64, "a", "y", "b", "1"), result(1, "a", "y", "b", "2"),
		result(-3, "b", "1"),
	}
	none := api.Value{Over: true}
	for _, c := range []struct {
		fn    int
		names []string
		want  []api.Result
	}{
		{api.GrTotal, nil, []api.Result{over()}},
		{api.GrMany, []string{}, []api.Result{result(7)}},
		{api.GrTotal, []string{"a"}, []api.Result{result(97), over("a", "x"), over("a", "y")}},
		{api.GrMany, []string{"a"}, []api.Result{result(2), result(3, "a", "x"), result(2, "a", "y")}},
		{api.GrLeast, []string{"a"}, []api.Result{result(-3), over("a", "x"), result(1, "a", "y")}},
		{api.GrMost, []string{"a"}, []api.Result{result(100), over("a", "x"), result(math.MaxInt64, "a", "y")}},
		{api.GrTotal, []string{"b"}, []api.Result{over(), result(math.MaxInt64-2, "b", "1"), result(6, "b", "2")}},
		{api.GrLeast, []string{"b"}, []api.Result{over(), result(-3, "b", "1"), result(1, "b", "2")}},
		{api.GrMost, []string{"b"}, []api.Result{over(), result(math.MaxInt64, "b", "1"), result(5, "b", "2")}},
		{api.GrTotal, []string{"d"}, []api.Result{over()}},
		{api.GrMany, []string{"c"}, []api.Result{result(6), result(1, "c", "1")}},
		{api.GrMost, []string{"a", "b", "c"}, v},
	} {
		got, e := batch.Group(c.fn, c.names, v)
		wantVector(t, "Group by "+strings.Join(c.names, " "), got, e, c.want)
	}
	if got, e := batch.Group(api.GrTotal, nil, []api.Result{over()}); e != api.OK || got[0].Value != none {
		t.Error(got, e)
	}
}

// P10.1: Join, whose results are of those labels that occur once on each side.
func TestJoin(t *testing.T) {
	const least, most = math.MinInt64, math.MaxInt64
	a := []api.Result{
		result(1, "a", "x", "b", "1"), result(2, "a", "x", "b", "2"),
		result(least, "a", "y"), over("a", "z"), result(9, "b", "1"),
	}
	b := []api.Result{
		result(10, "a", "x"), result(20, "a", "y", "c", "1"), result(30, "a", "z"), result(40, "b", "1", "c", "2"), result(50, "c", "3"),
	}
	for _, c := range []struct {
		op    int
		names []string
		a, b  []api.Result
		want  []api.Result
	}{
		{api.OpAdd, []string{"a"}, a, b, []api.Result{result(least+20, "a", "y"), over("a", "z")}},
		{api.OpSub, []string{"a"}, a, b, []api.Result{over("a", "y"), over("a", "z")}},
		{api.OpSub, []string{"a"}, b, a, []api.Result{over("a", "y"), over("a", "z")}},
		{api.OpSub, []string{"b"}, a, b, []api.Result{}},
		{api.OpSub, []string{"b"}, a[1:], b[3:], []api.Result{result(9-40, "b", "1")}},
		{api.OpSub, []string{"b"}, b[3:], a[1:], []api.Result{result(40-9, "b", "1")}},
		{api.OpMul, []string{"b"}, a[1:], b[3:], []api.Result{result(360, "b", "1")}},
		{api.OpAdd, []string{"b"}, a[4:], b[3:], []api.Result{result(49, "b", "1")}},
		{api.OpAdd, []string{"a", "b"}, a, b, []api.Result{result(least+20, "a", "y"), over("a", "z"), result(49, "b", "1")}},
		{api.OpAdd, []string{"a", "b", "c"}, a, b, []api.Result{over("a", "z")}},
		{api.OpMul, nil, a, b, nil},
		{api.OpMul, nil, a[:1], b[:1], []api.Result{result(10)}},
		{api.OpMul, nil, a[:1], b[:2], nil},
		{api.OpMul, nil, a[:2], b[:1], nil},
		{api.OpMul, nil, a[:1], nil, nil},
		{api.OpMul, nil, nil, b[:1], nil},
		{api.OpMul, nil, nil, nil, nil},
		{api.OpAdd, []string{"d"}, a[2:3], b[1:2], []api.Result{result(least + 20)}},
		{api.OpSub, []string{"a"}, []api.Result{result(-1)}, []api.Result{result(most)}, []api.Result{result(least)}},
		{api.OpSub, []string{"a"}, []api.Result{result(-2)}, []api.Result{result(most)}, []api.Result{over()}},
		{api.OpMul, []string{"a"}, []api.Result{result(0)}, []api.Result{over()}, []api.Result{over()}},
	} {
		got, e := batch.Join(c.op, c.names, c.a, c.b)
		wantVector(t, "Join on "+strings.Join(c.names, " "), got, e, c.want)
	}
}

// P10.1: Scale and Filter.
func TestScaleFilter(t *testing.T) {
	const least, most = math.MinInt64, math.MaxInt64
	v := []api.Result{over(), result(least, "a", "x"), result(-1, "a", "y"), result(0, "b", "x"), result(7, "b", "y"), result(most, "c", "x")}
	lines := "{} over\n{a=\"x\"} -9223372036854775808\n{a=\"y\"} -1\n{b=\"x\"} 0\n{b=\"y\"} 7\n{c=\"x\"} 9223372036854775807\n"
	for _, c := range []struct {
		op   int
		n    int64
		want string
	}{
		{api.OpAdd, 0, lines}, {api.OpSub, 0, lines}, {api.OpMul, 1, lines},
		{api.OpAdd, 1, "{} over\n{a=\"x\"} -9223372036854775807\n{a=\"y\"} 0\n{b=\"x\"} 1\n{b=\"y\"} 8\n{c=\"x\"} over\n"},
		{api.OpSub, 1, "{} over\n{a=\"x\"} over\n{a=\"y\"} -2\n{b=\"x\"} -1\n{b=\"y\"} 6\n{c=\"x\"} 9223372036854775806\n"},
		{api.OpSub, least, "{} over\n{a=\"x\"} 0\n{a=\"y\"} 9223372036854775807\n{b=\"x\"} over\n{b=\"y\"} over\n{c=\"x\"} over\n"},
		{api.OpMul, -1, "{} over\n{a=\"x\"} over\n{a=\"y\"} 1\n{b=\"x\"} 0\n{b=\"y\"} -7\n{c=\"x\"} -9223372036854775807\n"},
		{api.OpMul, 0, "{} over\n{a=\"x\"} 0\n{a=\"y\"} 0\n{b=\"x\"} 0\n{b=\"y\"} 0\n{c=\"x\"} 0\n"},
	} {
		if got, e := batch.Scale(c.op, c.n, v); e != api.OK || sample.Lines(got) != c.want {
			t.Errorf("Scale by %d with %d: error %d and\n%s", c.op, c.n, e, sample.Lines(got))
		}
	}
	for _, c := range []struct {
		op   int
		n    int64
		want []api.Result
	}{
		{api.OpLess, 0, v[1:3]}, {api.OpMost, 0, v[1:4]}, {api.OpMore, 0, v[4:]}, {api.OpLeast, 0, v[3:]}, {api.OpEq, 0, v[3:4]},
		{api.OpNe, 0, slices.Concat(v[1:3], v[4:])}, {api.OpNe, 1, v[1:]}, {api.OpEq, 1, nil},
		{api.OpLess, least, nil}, {api.OpMost, least, v[1:2]}, {api.OpMore, most, nil}, {api.OpLeast, most, v[5:]},
		{api.OpMost, most, v[1:]}, {api.OpLeast, least, v[1:]},
	} {
		got, e := batch.Filter(c.op, c.n, v)
		wantVector(t, "Filter by "+strconv.Itoa(c.op), got, e, c.want)
	}
}

// P10.1: Group, Join, Scale and Filter of vectors that look like chance, against
// each result and each pair.
func TestVectors(t *testing.T) {
	d, results := dice(1), 0
	for range 20000 {
		names, n, v, w := d.names(), d.number(), d.vector(12), d.vector(9)
		fn, op, comparison := 1+d.of(4), 1+d.of(3), 4+d.of(6)
		got, e := batch.Group(fn, names, v)
		wantVector(t, "Group", got, e, refGroup(fn, names, v))
		got, e = batch.Join(op, names, v, w)
		wantVector(t, "Join", got, e, refJoin(op, names, v, w))
		results += len(got)
		got, e = batch.Scale(op, n, v)
		wantVector(t, "Scale", got, e, refScale(op, n, v))
		got, e = batch.Filter(comparison, n, v)
		wantVector(t, "Filter", got, e, refFilter(comparison, n, v))
		if t.Failed() {
			t.Fatal(names, n, fn, op, comparison)
		}
	}
	if results < 5000 {
		t.Errorf("the joins have only %d results", results)
	}
}

// many returns a vector of n results.
func many(n int) (v []api.Result) {
	for i := range n {
		v = append(v, result(int64(i), "a", strconv.Itoa(10000+i)))
	}
	return v
}

// P10.1: vectors of MaxVector results.
func TestMaxVector(t *testing.T) {
	v := many(4096)
	got, e := batch.Group(api.GrLeast, []string{"a"}, v)
	wantVector(t, "Group", got, e, v)
	got, e = batch.Group(api.GrTotal, []string{"b"}, v)
	wantVector(t, "Group", got, e, []api.Result{result(4095 * 2048)})
	got, e = batch.Join(api.OpAdd, []string{"a"}, v, v)
	wantVector(t, "Join", got, e, refScale(api.OpMul, 2, v))
	got, e = batch.Scale(api.OpSub, 0, v)
	wantVector(t, "Scale", got, e, v)
	got, e = batch.Filter(api.OpLeast, 0, v)
	wantVector(t, "Filter", got, e, v)
}

// An invalid is what no vector is, and the error of sample.CheckVector.
type invalid struct {
	v    []api.Result
	want api.Errno
}

// invalids has a list for each way in which one is not a vector.
func invalids() []invalid {
	long := many(4097)
	long[0].Over = true
	return []invalid{
		{many(4097), api.ErrLong},
		{long, api.ErrLong},
		{make([]api.Result, 5000), api.ErrLong},
		{[]api.Result{result(1), {Value: api.Value{N: 1, Over: true}}}, api.ErrArg},
		{[]api.Result{{Value: api.Value{N: -1, Over: true}}}, api.ErrArg},
		{[]api.Result{result(1), result(1)}, api.ErrArg},
		{[]api.Result{result(1, "a", "x"), result(1)}, api.ErrArg},
		{[]api.Result{result(1, "a", "x"), result(2, "a", "x")}, api.ErrArg},
		{[]api.Result{result(1, "a", "y"), result(2, "a", "x")}, api.ErrArg},
		{[]api.Result{result(1, "A", "x")}, api.ErrArg},
		{[]api.Result{result(1), result(1, "a", "")}, api.ErrArg},
		{[]api.Result{result(1, "a", strings.Repeat("x", 65))}, api.ErrArg},
		{[]api.Result{result(1, "b", "x", "a", "x")}, api.ErrArg},
		{[]api.Result{{Labels: make([]api.Label, 9)}}, api.ErrArg},
	}
}

// noNames has lists that are not valid Names.
func noNames() [][]string {
	return [][]string{
		{""}, {"A"}, {"1"}, {"a", ""}, {"", "a"}, {"a", "a"}, {"b", "a"}, {"aa", "a"}, {"a", "c", "b"}, {"a-b"},
		{strings.Repeat("a", 25)}, strings.Split("abcdefghi", ""), slices.Repeat([]string{""}, 100),
	}
}

// P10.1: the errors of Group and Join, and which one comes first.
func TestNamesErrors(t *testing.T) {
	v, most := many(3), strings.Split("abcdefgh", "")
	for _, names := range noNames() {
		for _, x := range append(invalids(), invalid{v, api.OK}, invalid{}) {
			for n := range 6 {
				got, e := batch.Group(n, names, x.v)
				wantError(t, "Group of wrong names", got, e, api.ErrArg)
				got, e = batch.Join(n, names, x.v, v)
				wantError(t, "Join of wrong names", got, e, api.ErrArg)
				got, e = batch.Join(n, names, v, x.v)
				wantError(t, "Join of wrong names", got, e, api.ErrArg)
			}
		}
	}
	for _, n := range []int{0, -1, 4, 5, 6, 9, 10, 100, math.MinInt, math.MaxInt} {
		for _, x := range append(invalids(), invalid{v, api.OK}, invalid{}) {
			got, e := batch.Join(n, most, x.v, x.v)
			wantError(t, "Join of a wrong operator", got, e, api.ErrArg)
			if n != 4 {
				got, e = batch.Group(n, most, x.v)
				wantError(t, "Group of a wrong function", got, e, api.ErrArg)
			}
		}
	}
	for _, x := range invalids() {
		for n := 1; n <= 4; n++ {
			got, e := batch.Group(n, most, x.v)
			wantError(t, "Group of no vector", got, e, x.want)
		}
		for op := api.OpAdd; op <= api.OpMul; op++ {
			got, e := batch.Join(op, most, x.v, v)
			wantError(t, "Join of no vector", got, e, x.want)
			got, e = batch.Join(op, nil, v, x.v)
			wantError(t, "Join of no vector", got, e, x.want)
			for _, y := range invalids() {
				got, e = batch.Join(op, most, x.v, y.v)
				wantError(t, "Join of no vectors", got, e, x.want)
			}
		}
	}
}

// P10.1: the errors of Scale and Filter, and which one comes first.
func TestOpErrors(t *testing.T) {
	v := many(3)
	for _, op := range []int{math.MinInt, -1, 0, 1, 2, 3, 4, 5, 6, 7, 8, 9, 10, 11, 100, math.MaxInt} {
		for _, n := range []int64{0, 2, math.MinInt64, math.MaxInt64} {
			for _, x := range append(invalids(), invalid{v, api.OK}) {
				if op < 1 || op > 3 {
					got, e := batch.Scale(op, n, x.v)
					wantError(t, "Scale of a wrong operator", got, e, api.ErrArg)
				} else if x.want != api.OK {
					got, e := batch.Scale(op, n, x.v)
					wantError(t, "Scale of no vector", got, e, x.want)
				}
				if op < 4 || op > 9 {
					got, e := batch.Filter(op, n, x.v)
					wantError(t, "Filter of a wrong comparison", got, e, api.ErrArg)
				} else if x.want != api.OK {
					got, e := batch.Filter(op, n, x.v)
					wantError(t, "Filter of no vector", got, e, x.want)
				}
			}
		}
	}
	for _, empty := range [][]api.Result{nil, {}} {
		got, e := batch.Scale(api.OpAdd, 1, empty)
		wantVector(t, "Scale of nothing", got, e, nil)
		got, e = batch.Filter(api.OpNe, 1, empty)
		wantVector(t, "Filter of nothing", got, e, nil)
		got, e = batch.Group(api.GrMany, nil, empty)
		wantVector(t, "Group of nothing", got, e, nil)
	}
}

// roomy returns v with spare capacity in each list, filled with labels and
// results of its own.
func roomy(v []api.Result) []api.Result {
	spare := api.Label{Name: "spare", Text: "s"}
	own := append(make([]api.Result, 0, len(v)+3), v...)
	for i, x := range own {
		own[i].Labels = append(append(make([]api.Label, 0, 12), x.Labels...), spare, spare)[:len(x.Labels)]
	}
	return append(own, over("spare", "s"), over("spare", "t"))[:len(v)]
}

// whole returns copies of v and its spare capacity, and that of its labels.
func whole(v []api.Result) []api.Result {
	own := slices.Clone(v[:cap(v)])
	for i, x := range own {
		own[i].Labels = slices.Clone(x.Labels[:cap(x.Labels)])
	}
	return own
}

// apart checks that the lists of v share no memory: what is written to one of
// them, its spare capacity included, changes no other one.
func apart(t *testing.T, what string, v []api.Result) {
	t.Helper()
	want := copyOf(v)
	for i, x := range v {
		all := x.Labels[:cap(x.Labels)]
		for j := range all {
			all[j] = api.Label{Name: "spoilt", Text: "spoilt"}
		}
		v[i] = want[i]
		if !sample.Same(v, want) {
			t.Errorf("%s: the labels of result %d are shared", what, i)
		}
	}
	for i := range v[:cap(v)] {
		v[:cap(v)][i] = over("spoilt", "spoilt")
	}
}

// Rule 3 with P10.1: a vector is new memory, and no argument is changed, its
// spare capacity included.
func TestVectorsAreNew(t *testing.T) {
	v := roomy([]api.Result{result(3), result(1, "a", "x"), result(2, "a", "x", "b", "y"), result(9, "b", "y", "c", "z"), over("c", "z")})
	w := roomy([]api.Result{result(5, "a", "x"), result(6, "b", "y"), result(7, "c", "z")})
	names := append(make([]string, 0, 9), "a", "b", "c", "z", "y")[:3]
	wantV, wantW, wantNames := whole(v), whole(w), slices.Clone(names[:5])
	for what, call := range map[string]func() ([]api.Result, api.Errno){
		"Group":  func() ([]api.Result, api.Errno) { return batch.Group(api.GrMost, names, v) },
		"Join":   func() ([]api.Result, api.Errno) { return batch.Join(api.OpSub, names, v, w) },
		"itself": func() ([]api.Result, api.Errno) { return batch.Join(api.OpSub, names, v, v) },
		"Scale":  func() ([]api.Result, api.Errno) { return batch.Scale(api.OpAdd, 0, v) },
		"Filter": func() ([]api.Result, api.Errno) { return batch.Filter(api.OpMore, 0, v) },
	} {
		got, e := call()
		if e != api.OK || len(got) == 0 {
			t.Errorf("%s: error %d and %d results", what, e, len(got))
		}
		again, _ := call()
		want := copyOf(again)
		apart(t, what, got)
		if !sample.Same(again, want) {
			t.Errorf("%s: two results share memory", what)
		}
		if !reflect.DeepEqual(whole(v), wantV) || !reflect.DeepEqual(whole(w), wantW) || !slices.Equal(names[:5], wantNames) {
			t.Errorf("%s: an argument has changed", what)
		}
	}
}

// Rule 3 with P10.1: Window does not change its points.
func TestPointsStay(t *testing.T) {
	p := append(make([]api.Point, 0, 9), numbers(5, 3, 9, 1, 4, 8)...)[:4]
	want := slices.Clone(p[:9])
	for fn := api.FnSum; fn <= api.FnIncrease; fn++ {
		batch.Window(fn, p)
	}
	if !slices.Equal(p[:9], want) {
		t.Error(p[:9])
	}
}
