package batch_test

import (
	"math"
	"reflect"
	"slices"
	"strconv"
	"testing"

	"waterwheel/api"
	"waterwheel/ast"
	"waterwheel/batch"
	"waterwheel/grid"
	"waterwheel/parse"
	"waterwheel/sample"
)

// expr returns the expression of a text.
func expr(t *testing.T, s string) api.Expr {
	t.Helper()
	e, f := parse.Expr(s)
	if f.Err != api.OK {
		t.Fatalf("%s has the error %d at %d", s, f.Err, f.At)
	}
	return e
}

// wantEval checks Eval.
func wantEval(t *testing.T, s string, l []api.Sample, at int64, want string) {
	t.Helper()
	v, e := batch.Eval(expr(t, s), l, at)
	if got := sample.Lines(v); e != api.OK || got != want {
		t.Errorf("Eval of %s at %d: error %d and\n%snot\n%s", s, at, e, got, want)
	}
}

// P10.2: the chapter's examples, and others of the same samples.
func TestExamples(t *testing.T) {
	l := []api.Sample{of("cpu", 3, 1, "a", "x"), of("cpu", 8, 4, "a", "x"), of("cpu", 8, 2, "a", "y")}
	for s, want := range map[string]string{
		"sum(cpu[10])":                                       "{a=\"x\"} 5\n{a=\"y\"} 2\n",
		"increase(cpu[10])":                                  "{a=\"x\"} 3\n{a=\"y\"} 0\n",
		"total by () (sum(cpu[10]))":                         "{} 7\n",
		"many by () (last(cpu[2]))":                          "",
		"sum(cpu[10]) > 2":                                   "{a=\"x\"} 5\n",
		"many by () (last(cpu[3]))":                          "{} 2\n",
		"count(cpu[7])":                                      "{a=\"x\"} 1\n{a=\"y\"} 1\n",
		"count(cpu[8])":                                      "{a=\"x\"} 2\n{a=\"y\"} 1\n",
		"min(cpu[10])":                                       "{a=\"x\"} 1\n{a=\"y\"} 2\n",
		"max(cpu[10])":                                       "{a=\"x\"} 4\n{a=\"y\"} 2\n",
		"last(cpu[10])":                                      "{a=\"x\"} 4\n{a=\"y\"} 2\n",
		"sum(mem[10])":                                       "",
		"sum(cpu{a=\"y\"}[10])":                              "{a=\"y\"} 2\n",
		"sum(cpu{a!=\"y\", b=\"\"}[10])":                     "{a=\"x\"} 5\n",
		"sum(cpu{b!=\"\"}[10])":                              "",
		"sum(cpu[10]) - on (a) max(cpu[10])":                 "{a=\"x\"} 1\n{a=\"y\"} 0\n",
		"sum(cpu[10]) - on (a) max(cpu{a=\"y\"}[10])":        "{a=\"y\"} 0\n",
		"max(cpu{a=\"x\"}[10]) - on () max(cpu{a=\"y\"}[3])": "{} 2\n",
		"sum(cpu[10]) + on () sum(cpu[10])":                  "",
		"sum(cpu[10]) * -2":                                  "{a=\"x\"} -10\n{a=\"y\"} -4\n",
		"least by (b) (sum(cpu[10]) - 7) != -5":              "",
		"most by (b) (sum(cpu[10]) - 7) == -2":               "{} -2\n",
		"total by () (sum(cpu[10]) * 9223372036854775807)":   "{} over\n",
		"many by () (sum(cpu[10]) * 9223372036854775807)":    "{} 2\n",
		"sum(cpu[10]) * 9223372036854775807 != 0":            "",
	} {
		wantEval(t, s, l, 10, want)
	}
}

// P10.2: each window, at each time, of samples at each time.
func TestWindowEnds(t *testing.T) {
	for time := int64(1); time <= 12; time++ {
		l := []api.Sample{of("cpu", time, 7)}
		for span := int64(1); span <= 14; span++ {
			for at := int64(0); at <= 14; at++ {
				want := ""
				if at-span < time && time <= at {
					want = "{} 7\n"
				}
				wantEval(t, "sum(cpu["+strconv.FormatInt(span, 10)+"])", l, at, want)
			}
		}
	}
}

// P10.2: times and spans at their limits.
func TestEvalLimits(t *testing.T) {
	const end, most = 1 << 40, 1 << 30
	l := []api.Sample{of("cpu", end, 1), of("cpu", end-most+1, 2), of("cpu", end-most, 4), of("cpu", 1, 8)}
	for _, c := range []struct {
		s    string
		at   int64
		want string
	}{
		{"sum(cpu[1])", 0, ""},
		{"sum(cpu[1073741824])", 0, ""},
		{"sum(cpu[1])", 1, "{} 8\n"},
		{"sum(cpu[1073741824])", most, "{} 8\n"},
		{"sum(cpu[1073741824])", most + 1, ""},
		{"sum(cpu[1073741824])", end, "{} 3\n"},
		{"sum(cpu[1073741824])", end - 1, "{} 6\n"},
		{"sum(cpu[1])", end, "{} 1\n"},
		{"sum(cpu[1])", end - 1, ""},
		{"sum(cpu[2])", end, "{} 1\n"},
	} {
		wantEval(t, c.s, l, c.at, c.want)
	}
}

// P10.2: Eval and All of queries and samples that look like chance, against the
// reference.
func TestEvalChance(t *testing.T) {
	d, results := dice(7), 0
	for range 6000 {
		e, l := d.expr(1+d.of(5)), d.store(1+d.of(40), 25)
		for range 3 {
			at := int64(d.of(30))
			v, wrong := batch.Eval(e, l, at)
			if want := refEval(e, l, at); wrong != api.OK || !sample.Same(v, want) {
				t.Fatalf("%v of %v at %d: error %d and\n%snot\n%s", e, l, at, wrong, sample.Lines(v), sample.Lines(want))
			}
			results += len(v)
		}
	}
	if results < 10000 {
		t.Errorf("only %d results", results)
	}
}

// P10.2: All returns each time that grid.Between returns, with the result then.
func TestAll(t *testing.T) {
	d := dice(11)
	for range 400 {
		q, l := api.Query{Every: int64(1 + d.of(9)), Expr: d.expr(1 + d.of(4))}, d.store(1+d.of(40), 25)
		from, to := int64(d.of(40)-5), int64(d.of(50)-5)
		all, e := batch.All(q, l, from, to)
		times := grid.Between(q, from, to)
		if e != api.OK || len(all) != len(times) {
			t.Fatalf("All from %d to %d: error %d and %d times, not %d", from, to, e, len(all), len(times))
		}
		for i, x := range all {
			if want := refEval(q.Expr, l, times[i]); x.Time != times[i] || !sample.Same(x.Results, want) {
				t.Fatalf("All from %d to %d: at %d, not %d,\n%snot\n%s", from, to, x.Time, times[i], sample.Lines(x.Results), sample.Lines(want))
			}
		}
	}
}

// P10.2: All at the limits of times, and of many times.
func TestAllLimits(t *testing.T) {
	const end = 1 << 40
	q := api.Query{Every: 3, Expr: expr(t, "sum(cpu[2])")}
	l := []api.Sample{of("cpu", 5, 7), of("cpu", end, 8), of("cpu", end-1, 9), of("cpu", end-2, 1)}
	for _, c := range []struct {
		from, to    int64
		first, last int64
		n           int
	}{
		{0, 9, 3, 9, 3},
		{3, 9, 6, 9, 2},
		{2, 8, 3, 6, 2},
		{math.MinInt64, 5, 3, 3, 1},
		{9, 9, 0, 0, 0},
		{9, 3, 0, 0, 0},
		{0, 0, 0, 0, 0},
		{0, -1, 0, 0, 0},
		{math.MaxInt64, math.MinInt64, 0, 0, 0},
		{math.MinInt64, math.MaxInt64, 3, 3 * 4096, 4096},
		{end - 4, math.MaxInt64, end - 1, end - 1, 1},
		{end - 1, math.MaxInt64, 0, 0, 0},
		{end, end + 9, 0, 0, 0},
	} {
		all, e := batch.All(q, l, c.from, c.to)
		if e != api.OK || len(all) != c.n || c.n > 0 && (all[0].Time != c.first || all[c.n-1].Time != c.last) {
			t.Errorf("All from %d to %d: error %d and %v", c.from, c.to, e, all)
		}
		for _, x := range all {
			if want := map[int64]string{6: "{} 7\n", end - 1: "{} 10\n"}[x.Time]; sample.Lines(x.Results) != want {
				t.Errorf("All at %d: %s", x.Time, sample.Lines(x.Results))
			}
		}
	}
}

// exprErrors has expressions that are not valid, and the error of each.
func exprErrors(t *testing.T) map[api.Errno][]api.Expr {
	w := expr(t, "sum(cpu[10])")
	deep, large := w, w
	for range api.MaxNest {
		deep = api.Expr{Kind: api.ExScale, Op: api.OpAdd, Kids: []api.Expr{deep}}
	}
	for range 7 {
		large = api.Expr{Kind: api.ExJoin, Op: api.OpAdd, Kids: []api.Expr{large, large}}
	}
	endless := make([]api.Expr, 1)
	endless[0] = api.Expr{Kind: api.ExScale, Op: api.OpAdd, Kids: endless}
	wrong := []api.Expr{{}, {Kind: 6, Kids: []api.Expr{w}}, {Kind: -1}, {Kind: api.ExScale, Op: api.OpAdd}}
	for _, change := range []func(e *api.Expr){
		func(e *api.Expr) { e.Func = 0 },
		func(e *api.Expr) { e.Func = 7 },
		func(e *api.Expr) { e.Metric = "" },
		func(e *api.Expr) { e.Span = 0 },
		func(e *api.Expr) { e.Span = 1<<30 + 1 },
		func(e *api.Expr) { e.Num = 1 },
		func(e *api.Expr) { e.Kids = []api.Expr{w} },
		func(e *api.Expr) { e.Match = make([]api.Matcher, 1) },
		func(e *api.Expr) { e.Names = []string{"a"} },
	} {
		x := w
		change(&x)
		wrong = append(wrong, x, api.Expr{Kind: api.ExFilter, Op: api.OpEq, Kids: []api.Expr{x}},
			api.Expr{Kind: api.ExJoin, Op: api.OpAdd, Kids: []api.Expr{w, x}})
	}
	return map[api.Errno][]api.Expr{api.ErrArg: wrong, api.ErrLong: {deep, large, endless[0]}}
}

// P10.2: the errors of Eval and All, and which one comes first.
func TestEvalErrors(t *testing.T) {
	good := expr(t, "sum(cpu[10])")
	stores := map[api.Errno][]api.Sample{
		api.OK: {of("cpu", 3, 7)}, api.ErrArg: {of("cpu", 0, 7)},
		api.ErrThere: {of("cpu", 3, 7), of("cpu", 3, 7)}, api.ErrLong: wrongs()[api.ErrLong],
	}
	for bad, l := range stores {
		for _, at := range []int64{math.MinInt64, -1, 0, 5, 1 << 40, 1<<40 + 1, math.MaxInt64} {
			for want, all := range exprErrors(t) {
				for i, e := range all {
					if v, got := batch.Eval(e, l, at); got != want || len(v) != 0 {
						t.Errorf("Eval of wrong expression %d: error %d, not %d", i, got, want)
					}
					if v, got := batch.All(api.Query{Every: 5, Expr: e}, l, at, 10); got != want || len(v) != 0 {
						t.Errorf("All of wrong expression %d: error %d, not %d", i, got, want)
					}
				}
			}
			want := bad
			if bad == api.OK && (at < 0 || at > 1<<40) {
				want = api.ErrArg
			}
			if v, got := batch.Eval(good, l, at); got != want || (want != api.OK || at != 5) != (len(v) == 0) {
				t.Errorf("Eval at %d of %v: error %d, not %d", at, l, got, want)
			}
			if v, got := batch.All(api.Query{Every: 5, Expr: good}, l, 0, at); got != bad || bad != api.OK && len(v) != 0 {
				t.Errorf("All to %d of %v: error %d, not %d", at, l, got, bad)
			}
		}
	}
}

// P10.2: All of a query whose Every is out of range.
func TestAllEvery(t *testing.T) {
	good := expr(t, "sum(cpu[10])")
	for _, every := range []int64{0, -1, 1<<30 + 1, math.MinInt64, math.MaxInt64} {
		for _, e := range append(exprErrors(t)[api.ErrLong], good) {
			for _, l := range [][]api.Sample{nil, {of("cpu", 3, 7)}, {of("cpu", 3, 7), of("cpu", 3, 7)}} {
				if v, got := batch.All(api.Query{Every: every, Expr: e}, l, 0, 9); got != api.ErrArg || len(v) != 0 {
					t.Errorf("All with Every %d: error %d", every, got)
				}
			}
		}
	}
	l := []api.Sample{of("cpu", 1<<30, 7)}
	all, e := batch.All(api.Query{Every: 1 << 30, Expr: good}, l, 0, 1<<31)
	if e != api.OK || len(all) != 2 || sample.Lines(all[0].Results) != "{} 7\n" || len(all[1].Results) != 0 {
		t.Error(all, e)
	}
}

// numbered returns n samples at a time, each of its own series.
func numbered(metric string, n int, time int64) (l []api.Sample) {
	for i := range n {
		l = append(l, of(metric, time, int64(i), "a", strconv.Itoa(10000+i), "b", strconv.Itoa(i%2)))
	}
	return l
}

// P10.2: a window of more than MaxVector results has the first ones, and only
// series that it takes and that have samples in it count.
func TestMaxResults(t *testing.T) {
	l := shuffled(numbered("cpu", 5000, 9), 3)
	for _, c := range []struct {
		s           string
		first, last int64
		step        int64
	}{
		{"sum(cpu[10])", 0, 4095, 1},
		{"last(cpu[1])", 0, 4095, 1},
		{"sum(cpu{b=\"1\"}[10])", 1, 4999, 2},
		{"sum(cpu[10]) > 4000", 4001, 4095, 1},
		{"sum(cpu{a!=\"10003\"}[10]) >= 4000", 4000, 4096, 1},
		{"sum(cpu[10]) + on (a, b) sum(cpu[10]) * 0 >= 3", 3, 4095, 1},
		{"sum(cpu{b=\"0\"}[10])", 0, 4998, 2},
		{"most by (a) (sum(cpu[10]))", 0, 4095, 1},
	} {
		v, e := batch.Eval(expr(t, c.s), l, 9)
		if e != api.OK || len(v) != int((c.last-c.first)/c.step+1) {
			t.Fatalf("%s: error %d and %d results", c.s, e, len(v))
		}
		for i, x := range v {
			if x.N != c.first+int64(i)*c.step || x.Labels[0].Text != strconv.FormatInt(10000+x.N, 10) {
				t.Fatalf("%s: result %d is %v", c.s, i, x)
			}
		}
	}
	wantEval(t, "many by () (sum(cpu[10]))", l, 9, "{} 4096\n")
	wantEval(t, "total by () (sum(cpu[10]))", l, 9, "{} "+strconv.Itoa(4095*2048)+"\n")
	// The first 1,000 series have no samples in the window any more, and one has
	// a greater label that is first.
	l = append(numbered("cpu", 5100, 19)[1000:], numbered("cpu", 5100, 3)...)
	l = append(l, numbered("mem", 4096, 19)...)
	l = append(l, of("cpu", 12, -1, "a", "0"), of("cpu", 13, -2))
	wantEval(t, "sum(cpu[10]) < 1003", l, 20, "{} -2\n{a=\"0\"} -1\n{a=\"11000\",b=\"0\"} 1000\n{a=\"11001\",b=\"1\"} 1001\n{a=\"11002\",b=\"0\"} 1002\n")
	wantEval(t, "sum(cpu[10]) > 5091", l, 20, "{a=\"15092\",b=\"0\"} 5092\n{a=\"15093\",b=\"1\"} 5093\n")
	wantEval(t, "many by () (sum(mem[10]))", l, 20, "{} 4096\n")
}

// Rule 3 with P10.2: results are new memory, and no argument is changed, its
// spare capacity included.
func TestResultsAreNew(t *testing.T) {
	d := dice(5)
	stock := d.store(60, 10)
	l := append(append(make([]api.Sample, 0, 200), stock...), of("cpu", 3, 3, "spare", "s"))[:len(stock)]
	for i, x := range l {
		l[i].Labels = append(append(make([]api.Label, 0, 12), x.Labels...), api.Label{Name: "spare"})[:len(x.Labels)]
	}
	spare := l[:len(l)+1]
	want := slices.Clone(spare)
	for i, x := range want {
		want[i].Labels = slices.Clone(x.Labels[:cap(x.Labels)])
	}
	for range 500 {
		q := api.Query{Every: 1, Expr: d.expr(1 + d.of(3))}
		copied := ast.Copy(q.Expr)
		v, _ := batch.Eval(q.Expr, l, 9)
		all, _ := batch.All(q, l, 7, 10)
		kept := copyOf(all[1].Results)
		apart(t, "Eval", v)
		apart(t, "All", all[0].Results)
		apart(t, "All", all[2].Results)
		if !sample.Same(all[1].Results, kept) {
			t.Errorf("the results of two times share memory")
		}
		if !ast.Same(q.Expr, copied) {
			t.Fatalf("%v has become %v", copied, q.Expr)
		}
		for i, x := range spare {
			if x.Labels = x.Labels[:cap(x.Labels)]; !reflect.DeepEqual(x, want[i]) {
				t.Fatalf("sample %v has become %v", want[i], x)
			}
		}
	}
}
