package ast_test

import (
	"reflect"
	"regexp"
	"slices"
	"testing"

	"waterwheel/api"
	"waterwheel/ast"
)

// A maker makes expressions in an order that looks like chance.
type maker struct {
	seed uint64
}

// next returns a number below n.
func (m *maker) next(n int) int {
	m.seed = m.seed*6364136223846793005 + 1442695040888963407
	return int(m.seed >> 33 % uint64(n))
}

// pick returns one of l.
func pick[T any](m *maker, l ...T) T {
	return l[m.next(len(l))]
}

// valid returns a valid expression of at most deep levels.
func (m *maker) valid(deep int) api.Expr {
	kind := 1 + m.next(5)
	if deep == 1 {
		kind = api.ExWindow
	}
	kid := func() api.Expr { return m.valid(deep - 1) }
	switch names := pick(m, nil, []string{"a"}, []string{"a", "b", "c"}); kind {
	case api.ExWindow:
		e := window(pick(m, "a", "cpu", "m_1"), pick[int64](m, 1, 10, 1<<30))
		e.Func = 1 + m.next(6)
		for range m.next(9) {
			e.Match = append(e.Match, api.Matcher{Kind: 1 + m.next(2), Name: pick(m, "a", "b"), Text: pick(m, "", "x", "\xff")})
		}
		return e
	case api.ExGroup:
		e := group(names, kid())
		e.Func = 1 + m.next(4)
		return e
	case api.ExJoin:
		e := joined(names, kid(), kid())
		e.Op = 1 + m.next(3)
		return e
	case api.ExScale:
		e := scale(int64(m.next(9)-4), kid())
		e.Op = 1 + m.next(3)
		return e
	default:
		return filter(4+m.next(6), int64(m.next(9)-4), kid())
	}
}

// spoilt changes one field of one expression in e, in place.
func (m *maker) spoilt(e *api.Expr) {
	at, n := m.next(ast.Size(*e)), 0
	every(e, func(x *api.Expr) {
		if n++; n != at+1 {
			return
		}
		switch m.next(9) {
		case 0:
			x.Kind = m.next(8) - 1
		case 1:
			x.Func = m.next(9) - 1
		case 2:
			x.Op = m.next(12) - 1
		case 3:
			x.Num = pick[int64](m, 0, 3, -3)
		case 4:
			x.Metric = pick(m, "", "a", "A")
		case 5:
			x.Span = pick[int64](m, 0, 1, -1, 1<<30+1)
		case 6:
			x.Names = pick(m, nil, []string{"b", "a"}, []string{"a"}, []string{""}, []string{"a", "a"})
		case 7:
			x.Match = pick(m, nil, make([]api.Matcher, 9), []api.Matcher{{Kind: 1, Name: "a"}}, []api.Matcher{{Kind: 3, Name: "a"}})
		case 8:
			x.Kids = pick(m, nil, []api.Expr{window("a", 1)}, []api.Expr{window("a", 1), window("b", 1)}, make([]api.Expr, 3))
		}
	})
}

// A reference checks expressions in another way than the program.
type reference struct {
	name *regexp.Regexp
}

func newReference() reference {
	return reference{regexp.MustCompile(`^[a-z_][a-z0-9_]{0,23}$`)}
}

// check is CheckExpr.
func (r reference) check(e api.Expr) api.Errno {
	size, deep := r.measure(e)
	switch {
	case size > 200 || deep > 16:
		return api.ErrLong
	case r.valid(e):
		return api.OK
	}
	return api.ErrArg
}

// measure returns the size and the depth of e.
func (r reference) measure(e api.Expr) (size, deep int) {
	for _, kid := range e.Kids {
		n, d := r.measure(kid)
		size, deep = size+n, max(deep, d)
	}
	return size + 1, deep + 1
}

// valid reports whether e is valid, but for its size: it is if it is that
// which is made anew of what its kind has.
func (r reference) valid(e api.Expr) bool {
	for _, kid := range e.Kids {
		if !r.valid(kid) {
			return false
		}
	}
	only := api.Expr{Kind: e.Kind, Kids: e.Kids}
	kids := 1
	var inRange bool
	switch e.Kind {
	case 1:
		kids = 0
		only.Func, only.Metric, only.Match, only.Span = e.Func, e.Metric, e.Match, e.Span
		inRange = e.Func >= 1 && e.Func <= 6 && e.Span >= 1 && e.Span <= 1<<30 && r.name.MatchString(e.Metric) && r.match(e.Match)
	case 2:
		only.Func, only.Names = e.Func, e.Names
		inRange = e.Func >= 1 && e.Func <= 4 && r.names(e.Names)
	case 3:
		kids = 2
		only.Op, only.Names = e.Op, e.Names
		inRange = e.Op >= 1 && e.Op <= 3 && r.names(e.Names)
	case 4:
		only.Op, only.Num = e.Op, e.Num
		inRange = e.Op >= 1 && e.Op <= 3
	case 5:
		only.Op, only.Num = e.Op, e.Num
		inRange = e.Op >= 4 && e.Op <= 9
	}
	return inRange && len(e.Kids) == kids && reflect.DeepEqual(only, e)
}

// match reports whether matchers are valid.
func (r reference) match(l []api.Matcher) bool {
	return len(l) <= 8 && !slices.ContainsFunc(l, func(m api.Matcher) bool {
		return m.Kind != 1 && m.Kind != 2 || !r.name.MatchString(m.Name) || len(m.Text) > 64
	})
}

// names reports whether names are at most 8, ascending and different.
func (r reference) names(l []string) bool {
	sorted := slices.Compact(slices.Sorted(slices.Values(l)))
	return len(l) <= 8 && slices.Equal(sorted, l) && !slices.ContainsFunc(l, func(s string) bool { return !r.name.MatchString(s) })
}

// order returns e and everything in it in the order of Walk, without recursion.
func order(e api.Expr) []api.Expr {
	var l []api.Expr
	for open := []api.Expr{e}; len(open) > 0; {
		x := open[len(open)-1]
		open = open[:len(open)-1]
		l = append(l, x)
		for _, kid := range slices.Backward(x.Kids) {
			open = append(open, kid)
		}
	}
	return l
}

// P6.1: CheckExpr of many expressions, valid ones and others, against the
// reference.
func TestManyChecks(t *testing.T) {
	m, r := &maker{1}, newReference()
	counts := map[api.Errno]int{}
	for range 20000 {
		e := m.valid(1 + m.next(18))
		for range m.next(3) {
			m.spoilt(&e)
		}
		want := r.check(e)
		counts[want]++
		if got := ast.CheckExpr(e); got != want {
			t.Fatalf("CheckExpr of %v is %d, not %d", e, got, want)
		}
		if got := ast.Check(api.Query{Every: 1 << 30, Expr: e}); got != want {
			t.Fatalf("Check of %v is %d, not %d", e, got, want)
		}
	}
	for _, e := range []api.Errno{api.OK, api.ErrArg, api.ErrLong} {
		if counts[e] < 300 {
			t.Errorf("only %d of error %d", counts[e], e)
		}
	}
}

// P6.2, P6.3: many expressions: a copy is the same and shares no memory, and
// Walk calls its function as many times as Size returns, in its order.
func TestTheorems(t *testing.T) {
	m := &maker{2}
	for range 5000 {
		e := m.valid(1 + m.next(9))
		for range m.next(3) {
			m.spoilt(&e)
		}
		c := ast.Copy(e)
		want := order(e)
		wantOrder(t, c, want)
		if !ast.Same(c, e) || !reflect.DeepEqual(c, e) || !slices.EqualFunc(ast.Leaves(e), leavesOf(want), ast.Same) {
			t.Fatalf("a copy of %v is %v", e, c)
		}
		m.spoilt(&c)
		if got := ast.Same(c, e); got != reflect.DeepEqual(c, e) || got != ast.Same(e, c) {
			t.Fatalf("Same of %v and %v is %v", c, e, got)
		}
		before := ast.Copy(e)
		spoil(&c)
		if !reflect.DeepEqual(e, before) {
			t.Fatalf("%v became %v", before, e)
		}
	}
}

// wantOrder checks that Walk visits these expressions, whole, and as many as
// Size returns.
func wantOrder(t *testing.T, e api.Expr, want []api.Expr) {
	t.Helper()
	n := 0
	whole := ast.Walk(e, func(x api.Expr) bool {
		n++
		return n <= len(want) && reflect.DeepEqual(x, want[n-1])
	})
	if !whole || n != len(want) || ast.Size(e) != n {
		t.Fatalf("Walk of %v is %v after %d, and Size %d, of %d", e, whole, n, ast.Size(e), len(want))
	}
}

// leavesOf returns the windows of a list.
func leavesOf(l []api.Expr) []api.Expr {
	return slices.DeleteFunc(slices.Clone(l), func(e api.Expr) bool { return e.Kind != api.ExWindow })
}
