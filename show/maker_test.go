package show_test

import (
	"math"
	"slices"
	"strconv"
	"strings"

	"waterwheel/api"
)

// A maker makes expressions in an order that looks like chance.
type maker struct {
	seed  uint64
	wrong bool // it may make expressions that are not valid
}

// next returns a number below n.
func (m *maker) next(n int) int {
	m.seed = m.seed*6364136223846793005 + 1442695040888963407
	return int(m.seed >> 33 % uint64(n))
}

// pick returns one of l.
func pick[T any](m *maker, l ...T) T {
	return l[m.next(len(l))]
}

// spoils reports whether something that is not valid shall be made.
func (m *maker) spoils() bool {
	return m.wrong && m.next(40) == 0
}

// expr returns an expression of at most deep levels.
func (m *maker) expr(deep int) api.Expr {
	kind := 1 + m.next(5)
	if deep <= 1 {
		kind = api.ExWindow
	}
	num := pick[int64](m, 0, 1, -1, 30, -2, math.MaxInt64, math.MinInt64)
	switch kind {
	case api.ExWindow:
		return m.window()
	case api.ExGroup:
		return group(1+m.next(4), m.expr(deep-1), m.names()...)
	case api.ExJoin:
		return joined(1+m.next(3), m.expr(deep-1), m.expr(deep-1-m.next(deep)), m.names()...)
	case api.ExScale:
		return scale(1+m.next(3), m.expr(deep-1), num)
	}
	return filter(4+m.next(6), m.expr(deep-1), num)
}

// window returns a window.
func (m *maker) window() api.Expr {
	e := sum(pick(m, "a", "cpu", "sum", "on", "every", "_9"))
	e.Func = 1 + m.next(6)
	e.Span = pick[int64](m, 1, 10, 1<<30)
	if m.spoils() {
		e.Span = pick[int64](m, 0, -1, 1<<30+1)
	}
	n := m.next(api.MaxMatch + 1)
	if m.spoils() {
		n = 9 + m.next(3)
	}
	for range n {
		e.Match = append(e.Match, api.Matcher{Kind: 1 + m.next(2), Name: pick(m, "a", "by", "_"), Text: pick(m, "", "x", "\"\xff\n\\", "+")})
	}
	return e
}

// names returns names in their order.
func (m *maker) names() []string {
	n := m.next(api.MaxLabels + 1)
	if m.spoils() {
		n = 9 + m.next(3)
	}
	l := strings.Fields("a b by c every on sum total x y z")
	for len(l) > n {
		at := m.next(len(l))
		l = slices.Delete(l, at, at+1)
	}
	return l
}

// decimal returns n in decimal.
func decimal(n int64) string {
	return strconv.FormatInt(n, 10)
}
