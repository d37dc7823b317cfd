package ast_test

import (
	"math"
	"slices"
	"strings"
	"testing"

	"waterwheel/api"
	"waterwheel/ast"
)

// numbers are of all sizes, and around all limits of fields.
func numbers() []int64 {
	l := []int64{math.MinInt64, math.MinInt64 + 1, math.MaxInt64 - 1, math.MaxInt64}
	for _, n := range []int64{1 << 16, math.MaxInt32, 1 << 32, 1 << 30, 1 << 40} {
		l = append(l, -n-1, -n, -n+1, n-1, n, n+1)
	}
	for n := range int64(40) {
		l = append(l, n-20)
	}
	return l
}

// wantExpr checks that CheckExpr returns an error, also for e as a kid.
func wantExpr(t *testing.T, e api.Expr, want api.Errno) {
	t.Helper()
	if got := ast.CheckExpr(e); got != want {
		t.Errorf("CheckExpr of %.300v is %d, not %d", e, got, want)
	}
	if got := ast.Check(api.Query{Every: 1, Expr: e}); got != want {
		t.Errorf("Check of %.300v is %d, not %d", e, got, want)
	}
	if ast.Deep(e) >= api.MaxNest || ast.Size(e) > api.MaxSize-2 {
		return
	}
	for _, above := range []api.Expr{
		group([]string{"a"}, e), scale(1, e), filter(api.OpEq, 1, e), joined(nil, e, window("a", 1)), joined(nil, window("a", 1), e),
	} {
		if got := ast.CheckExpr(above); got != want {
			t.Errorf("CheckExpr of %.300v is %d, not %d", above, got, want)
		}
	}
}

// errorIf returns ErrArg if wrong is true.
func errorIf(wrong bool) api.Errno {
	if wrong {
		return api.ErrArg
	}
	return api.OK
}

// P6.1: each kind with each number in each of its fields.
func TestFieldsOfKinds(t *testing.T) {
	for _, n := range numbers() {
		in := func(least, most int64) bool { return least <= n && n <= most }
		for _, c := range []struct {
			e         api.Expr
			fn, op    bool
			num, span bool
		}{
			{window("cpu", 10), in(1, 6), n == 0, n == 0, in(1, 1<<30)},
			{group([]string{"a"}, window("cpu", 10)), in(1, 4), n == 0, n == 0, n == 0},
			{joined([]string{"a"}, window("cpu", 10), window("b", 1)), n == 0, in(1, 3), n == 0, n == 0},
			{scale(7, window("cpu", 10)), n == 0, in(1, 3), true, n == 0},
			{filter(api.OpMore, 3, window("cpu", 10)), n == 0, in(4, 9), true, n == 0},
		} {
			e := c.e
			wantExpr(t, e, api.OK)
			e.Func = int(n)
			wantExpr(t, e, errorIf(!c.fn))
			e = c.e
			e.Op = int(n)
			wantExpr(t, e, errorIf(!c.op))
			e = c.e
			e.Num = n
			wantExpr(t, e, errorIf(!c.num))
			e = c.e
			e.Span = n
			wantExpr(t, e, errorIf(!c.span))
		}
	}
}

// P6.1: each Kind with each number of Kids, and Kids.
func TestKinds(t *testing.T) {
	want := map[int64]int{api.ExWindow: 0, api.ExGroup: 1, api.ExJoin: 2, api.ExScale: 1, api.ExFilter: 1}
	for _, n := range numbers() {
		has, is := want[n]
		if !is {
			has = -1
		}
		if got := ast.Kids(int(n)); got != has {
			t.Errorf("Kids of %d is %d", n, got)
		}
		for _, e := range kinds() {
			wrong := e
			wrong.Kind = int(n)
			wantExpr(t, wrong, errorIf(int(n) != e.Kind))
			for k := range 5 {
				wrong.Kids = slices.Repeat([]api.Expr{window("x", 1)}, k)
				wantExpr(t, wrong, errorIf(int(n) != e.Kind || k != has))
			}
		}
		wantExpr(t, api.Expr{Kind: int(n)}, api.ErrArg)
	}
	for fn := range 10 {
		for op := range 11 {
			wantExpr(t, api.Expr{Func: fn, Op: op, Metric: "cpu", Span: 10}, api.ErrArg)
		}
	}
}

// P6.1: what only a window has, and what it needs.
func TestMetricAndMatch(t *testing.T) {
	is := func(n int, name, text string) []api.Matcher {
		return slices.Repeat([]api.Matcher{{Kind: api.MatchIs, Name: name, Text: text}}, n)
	}
	for _, e := range kinds() {
		leaf := e.Kind == api.ExWindow
		for _, c := range []struct {
			metric string
			valid  bool
		}{
			{"", false}, {"m", true}, {"cpu_1", true}, {"_", true}, {"1a", false}, {"A", false}, {"a b", false}, {"a\x00", false},
			{"é", false}, {strings.Repeat("m", 24), true}, {strings.Repeat("m", 25), false}, {strings.Repeat("m", 1<<20), false},
		} {
			e.Metric = c.metric
			wantExpr(t, e, errorIf(leaf && !c.valid || !leaf && c.metric != ""))
		}
		e.Metric = kindOf(e.Kind).Metric
		for _, c := range []struct {
			match []api.Matcher
			valid bool
		}{
			{nil, true}, {[]api.Matcher{}, true}, {is(8, "a", "x")[:0], true},
			{is(1, "a", "x"), true}, {is(1, "a", ""), true}, {is(1, "", "x"), false}, {is(1, "1", "x"), false},
			{is(1, "a", strings.Repeat("\xff", 64)), true}, {is(1, "a", strings.Repeat("x", 65)), false},
			{is(1, strings.Repeat("a", 24), "x"), true}, {is(1, strings.Repeat("a", 25), "x"), false},
			{is(8, "a", "x"), true}, {is(9, "a", "x"), false}, {is(1<<16, "a", "x"), false},
			{[]api.Matcher{{Kind: api.MatchNot, Name: "a"}}, true}, {[]api.Matcher{{Name: "a"}}, false},
			{[]api.Matcher{{Kind: 3, Name: "a"}}, false}, {[]api.Matcher{{Kind: -1, Name: "a"}}, false}, {[]api.Matcher{{}}, false},
			{append(is(7, "b", "x"), api.Matcher{Kind: 3, Name: "a"}), false},
		} {
			e.Match = c.match
			wantExpr(t, e, errorIf(leaf && !c.valid || !leaf && len(c.match) != 0))
		}
	}
}

// P6.1: the Names of groups and joins, at their limits, and those of others.
func TestNames(t *testing.T) {
	eight := strings.Fields("a aa b c_1 d e1 f z")
	long := strings.Repeat("n", 24)
	for _, c := range []struct {
		names []string
		valid bool
	}{
		{nil, true}, {[]string{}, true}, {eight[:0], true}, {eight[:1], true}, {eight[:7], true}, {eight, true}, {append(slices.Clone(eight), "zz"), false},
		{[]string{"_"}, true}, {[]string{long}, true}, {[]string{long + "n"}, false}, {[]string{""}, false}, {[]string{"", "a"}, false},
		{[]string{"1"}, false}, {[]string{"a", "B"}, false}, {[]string{"A"}, false}, {[]string{"a", "b c"}, false}, {[]string{"1a", "a"}, false},
		{[]string{"a", "é"}, false}, {[]string{"a", "b"}, true}, {[]string{"b", "a"}, false}, {[]string{"a", "a"}, false},
		{[]string{"a", "b", "b"}, false}, {[]string{"a", "c", "b"}, false}, {[]string{"a", "b", "a"}, false}, {[]string{"aa", "a"}, false},
		{slices.Repeat([]string{"a"}, 1<<16), false}, {[]string{"a", "b", "c", "d", "e", "f", "h", "g"}, false},
	} {
		for _, e := range kinds() {
			e.Names = c.names
			has := e.Kind == api.ExGroup || e.Kind == api.ExJoin
			wantExpr(t, e, errorIf(has && !c.valid || !has && len(c.names) != 0))
		}
	}
}

// P6.1: the range of Every, which is looked at first.
func TestEvery(t *testing.T) {
	for _, every := range numbers() {
		out := every < 1 || every > 1<<30
		for _, c := range []struct {
			e    api.Expr
			want api.Errno
		}{
			{chapter(), api.OK}, {api.Expr{}, api.ErrArg}, {chain(api.MaxNest), api.OK}, {chain(api.MaxNest + 1), api.ErrLong},
		} {
			if out {
				c.want = api.ErrArg
			}
			if got := ast.Check(api.Query{Every: every, Expr: c.e}); got != c.want {
				t.Errorf("Check with Every %d is %d, not %d", every, got, c.want)
			}
		}
	}
}

// P6.1: the greatest depth, along each kid.
func TestTooDeep(t *testing.T) {
	for n := 1; n <= 40; n++ {
		want := api.OK
		if n > 16 {
			want = api.ErrLong
		}
		wantExpr(t, chain(n), want)
		e, f := window("cpu", 1), window("cpu", 1)
		for range n - 1 {
			e, f = joined(nil, e, window("a", 1)), joined(nil, window("a", 1), f)
		}
		wantExpr(t, e, want)
		wantExpr(t, f, want)
	}
}

// P6.1: the greatest size.
func TestTooLong(t *testing.T) {
	for n := 1; n <= 420; n++ {
		want := api.OK
		if n > 200 {
			want = api.ErrLong
		}
		wantExpr(t, sized(n), want)
	}
}

// P6.1: ErrLong comes before ErrArg, wherever something is not valid.
func TestLongBeforeArg(t *testing.T) {
	for n, want := range map[int]api.Errno{16: api.ErrArg, 17: api.ErrLong, 300: api.ErrLong} {
		e := chain(n)
		e.Kind = 0
		wantExpr(t, e, want)
		deepest := api.Expr{}
		for range n - 1 {
			deepest = scale(1, deepest)
		}
		wantExpr(t, deepest, want)
		without := api.Expr{}
		for range n - 1 {
			without = api.Expr{Kids: []api.Expr{without}}
		}
		wantExpr(t, without, want)
	}
	for n, want := range map[int]api.Errno{199: api.ErrArg, 200: api.ErrLong, 1 << 16: api.ErrLong} {
		for _, e := range kinds() {
			e.Kids = make([]api.Expr, n)
			wantExpr(t, e, want)
		}
	}
	for _, n := range []int{200, 201} {
		e := sized(n)
		e.Op = api.OpLess
		wantExpr(t, e, map[int]api.Errno{200: api.ErrArg, 201: api.ErrLong}[n])
	}
}

// P6.1: kids that are the same memory count as often as they occur, and no
// more of them are visited than are needed.
func TestSharedKids(t *testing.T) {
	e := window("cpu", 1)
	for n := range 64 {
		if n < 7 {
			wantExpr(t, e, api.OK)
		} else if got := ast.CheckExpr(e); got != api.ErrLong {
			t.Errorf("CheckExpr of %d levels of shared kids is %d", n, got)
		}
		e = joined(nil, e, e)
	}
	if ast.Walk(e, func(x api.Expr) bool { return x.Kind != api.ExWindow }) {
		t.Error("a walk that did not end")
	}
}
