package ast_test

import (
	"reflect"
	"slices"
	"testing"

	"waterwheel/api"
	"waterwheel/ast"
)

// window, group, joined, scale and filter make valid expressions.
func window(metric string, span int64) api.Expr {
	return api.Expr{Kind: api.ExWindow, Func: api.FnSum, Metric: metric, Span: span}
}

func group(names []string, kid api.Expr) api.Expr {
	return api.Expr{Kind: api.ExGroup, Func: api.GrTotal, Names: names, Kids: []api.Expr{kid}}
}

func joined(names []string, a, b api.Expr) api.Expr {
	return api.Expr{Kind: api.ExJoin, Op: api.OpAdd, Names: names, Kids: []api.Expr{a, b}}
}

func scale(n int64, kid api.Expr) api.Expr {
	return api.Expr{Kind: api.ExScale, Op: api.OpMul, Num: n, Kids: []api.Expr{kid}}
}

func filter(op int, n int64, kid api.Expr) api.Expr {
	return api.Expr{Kind: api.ExFilter, Op: op, Num: n, Kids: []api.Expr{kid}}
}

// chapter returns the expression of the chapter's examples.
func chapter() api.Expr {
	return filter(api.OpMore, 3, group([]string{"a"}, window("cpu", 10)))
}

// kinds returns a valid expression of each kind.
func kinds() []api.Expr {
	return []api.Expr{
		window("cpu", 10), group([]string{"a"}, window("cpu", 10)), joined([]string{"a", "b"}, window("a", 1), window("b", 2)),
		scale(7, window("cpu", 10)), filter(api.OpMore, 3, window("cpu", 10)),
	}
}

// kindOf returns the expression of a kind in kinds.
func kindOf(kind int) api.Expr {
	return kinds()[kind-api.ExWindow]
}

// chain returns a valid expression of n expressions, one in the other.
func chain(n int) api.Expr {
	e := window("cpu", 1)
	for i := range n - 1 {
		if i%2 == 0 {
			e = scale(int64(i), e)
		} else {
			e = group(nil, e)
		}
	}
	return e
}

// sized returns a flat expression of n expressions, which is valid if n is at
// most 200.
func sized(n int) api.Expr {
	switch {
	case n == 1:
		return window("cpu", 1)
	case n%2 == 0:
		return scale(2, sized(n-1))
	}
	return joined(nil, sized(n/2), sized(n/2))
}

// tree returns an expression with kids of all kinds, which is not valid. Its
// Nums are its places in the order of Walk, from 0 on.
func tree() api.Expr {
	leaf := func(n, span int64) api.Expr {
		return api.Expr{Kind: api.ExWindow, Num: n, Span: span, Metric: "m", Match: []api.Matcher{{Name: "a", Text: "x"}}}
	}
	full := leaf(4, 9)
	full.Kids = []api.Expr{leaf(5, 30), {Num: 6, Span: 50}}
	full.Names = []string{"b", "a"}
	return api.Expr{Kind: api.ExJoin, Num: 0, Span: 40, Kids: []api.Expr{
		{Kind: api.ExJoin, Num: 1, Kids: []api.Expr{leaf(2, -5), leaf(3, 0)}},
		full,
		{Kind: 77, Num: 7, Kids: []api.Expr{{Num: 8, Kids: []api.Expr{leaf(9, 20)}}}},
		{Kind: api.ExFilter, Num: 10},
	}}
}

// wantCounts checks Size, Deep and Horizon.
func wantCounts(t *testing.T, e api.Expr, size, deep int, horizon int64) {
	t.Helper()
	if got := ast.Size(e); got != size {
		t.Errorf("Size is %d, not %d", got, size)
	}
	if got := ast.Deep(e); got != deep {
		t.Errorf("Deep is %d, not %d", got, deep)
	}
	if got := ast.Horizon(e); got != horizon {
		t.Errorf("Horizon is %d, not %d", got, horizon)
	}
}

// P6.1, P6.2: the chapter's examples.
func TestExamples(t *testing.T) {
	e := chapter()
	wantCounts(t, e, 3, 3, 10)
	for every, want := range map[int64]api.Errno{5: api.OK, 0: api.ErrArg} {
		if got := ast.Check(api.Query{Every: every, Expr: e}); got != want {
			t.Errorf("Check with Every %d is %d", every, got)
		}
	}
	e.Kids[0].Names = []string{"b", "a"}
	if got := ast.Check(api.Query{Every: 5, Expr: e}); got != api.ErrArg {
		t.Errorf("Check with Names b a is %d", got)
	}
}

// P6.1: Size and Deep of all kinds, valid or not. P6.2: Horizon.
func TestCounts(t *testing.T) {
	wantCounts(t, api.Expr{}, 1, 1, 0)
	wantCounts(t, api.Expr{Span: 7}, 1, 1, 0)
	wantCounts(t, api.Expr{Kids: make([]api.Expr, 5)}, 6, 2, 0)
	for i, e := range kinds() {
		wantCounts(t, e, []int{1, 2, 3, 2, 2}[i], []int{1, 2, 2, 2, 2}[i], []int64{10, 10, 2, 10, 10}[i])
	}
	wantCounts(t, tree(), 11, 4, 30)
	wantCounts(t, joined(nil, window("a", 5), window("a", 3)), 3, 2, 5)
	wantCounts(t, joined(nil, window("a", -5), window("a", -3)), 3, 2, 0)
	wantCounts(t, joined(nil, window("a", 1<<62), window("a", -1<<63)), 3, 2, 1<<62)
	wantCounts(t, joined(nil, chain(9), chain(4)), 14, 10, 1)
	wantCounts(t, joined(nil, chain(4), chain(9)), 14, 10, 1)
	for n := 1; n < 500; n++ {
		wantCounts(t, chain(n), n, n, 1)
		if got := ast.Size(sized(n)); got != n {
			t.Errorf("Size of %d is %d", n, got)
		}
	}
}

// places returns the Nums of what Walk visits, up to one of them, and what it
// returns.
func places(e api.Expr, until int64) (l []int64, whole bool) {
	whole = ast.Walk(e, func(x api.Expr) bool {
		l = append(l, x.Num)
		return x.Num != until
	})
	return l, whole
}

// P6.2: Walk visits e, and then each kid with everything in it, until each
// returns false.
func TestWalk(t *testing.T) {
	want := []int64{0, 1, 2, 3, 4, 5, 6, 7, 8, 9, 10}
	if l, whole := places(tree(), -1); !whole || !slices.Equal(l, want) {
		t.Errorf("%v, %v", l, whole)
	}
	for i := range want {
		if l, whole := places(tree(), int64(i)); whole || !slices.Equal(l, want[:i+1]) {
			t.Errorf("until %d: %v, %v", i, l, whole)
		}
	}
	if ast.Walk(tree(), nil) || ast.Walk(api.Expr{}, nil) {
		t.Error("Walk without each")
	}
	if l, whole := places(api.Expr{}, -1); !whole || !slices.Equal(l, []int64{0}) {
		t.Errorf("%v, %v", l, whole)
	}
}

// P6.2: each receives each expression whole, and may walk itself.
func TestWalkGivesWhole(t *testing.T) {
	e := tree()
	want := []api.Expr{
		e, e.Kids[0], e.Kids[0].Kids[0], e.Kids[0].Kids[1], e.Kids[1], e.Kids[1].Kids[0], e.Kids[1].Kids[1],
		e.Kids[2], e.Kids[2].Kids[0], e.Kids[2].Kids[0].Kids[0], e.Kids[3],
	}
	n, within := 0, 0
	whole := ast.Walk(e, func(x api.Expr) bool {
		if !reflect.DeepEqual(x, want[n]) {
			t.Errorf("%d is %v, not %v", n, x, want[n])
		}
		n++
		return ast.Walk(x, func(api.Expr) bool { within++; return true })
	})
	// Each expression is visited once from each that it is in.
	if !whole || n != 11 || within != 28 {
		t.Errorf("%v, %d, %d", whole, n, within)
	}
}

// T6 with P6.2: no call panics; a walk that an each ends by a panic is not
// whole.
func TestWalkPanics(t *testing.T) {
	for at := range 11 {
		n := 0
		whole := ast.Walk(tree(), func(x api.Expr) bool {
			if n++; n > at {
				panic("in each")
			}
			return true
		})
		if whole || n != at+1 {
			t.Errorf("%v after %d", whole, n)
		}
	}
}

// P6.2: Leaves are all windows, whole, in the order of Walk.
func TestLeaves(t *testing.T) {
	e := tree()
	want := []api.Expr{e.Kids[0].Kids[0], e.Kids[0].Kids[1], e.Kids[1], e.Kids[1].Kids[0], e.Kids[2].Kids[0].Kids[0]}
	if got := ast.Leaves(e); !reflect.DeepEqual(got, want) {
		t.Errorf("%v", got)
	}
	if got := ast.Leaves(window("cpu", 10)); !reflect.DeepEqual(got, []api.Expr{window("cpu", 10)}) {
		t.Errorf("%v", got)
	}
	a, b := window("b", 10), window("a", 5)
	if got := ast.Leaves(joined(nil, scale(1, a), joined(nil, b, a))); !reflect.DeepEqual(got, []api.Expr{a, b, a}) {
		t.Errorf("%v", got)
	}
	for _, none := range []api.Expr{{}, {Kind: 6}, {Kind: -1}, group(nil, api.Expr{}), {Kind: api.ExJoin, Span: 3, Metric: "a"}} {
		if got := ast.Leaves(none); len(got) != 0 {
			t.Errorf("Leaves of %v is %v", none, got)
		}
	}
}

// P6.1, P6.2: expressions at the bound of nesting, and very wide ones.
func TestAtBound(t *testing.T) {
	const n = 1 << 16
	e := chain(n)
	wantCounts(t, e, n, n, 1)
	if l := ast.Leaves(e); len(l) != 1 || !ast.Same(l[0], window("cpu", 1)) {
		t.Errorf("%v", l)
	}
	if c := ast.Copy(e); !ast.Same(c, e) || ast.Same(c, chain(n-1)) || ast.Same(chain(n+1), e) {
		t.Error("a copy of a deep one")
	}
	visited := 0
	if !ast.Walk(e, func(api.Expr) bool { visited++; return true }) || visited != n {
		t.Errorf("visited %d", visited)
	}
	if got := ast.CheckExpr(e); got != api.ErrLong {
		t.Errorf("CheckExpr is %d", got)
	}
	wide := api.Expr{Kind: api.ExJoin, Kids: slices.Repeat([]api.Expr{window("a", 1)}, n)}
	wide.Kids[n-1].Span = 2
	wantCounts(t, wide, n+1, 2, 2)
	if c := ast.Copy(wide); !ast.Same(c, wide) || len(ast.Leaves(c)) != n || ast.CheckExpr(c) != api.ErrLong {
		t.Error("a copy of a wide one")
	}
}
