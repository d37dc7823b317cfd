package parse_test

import (
	"math"
	"slices"
	"strconv"
	"strings"
	"testing"

	"waterwheel/api"
	"waterwheel/ast"
	"waterwheel/lex"
	"waterwheel/parse"
)

// A maker makes expressions, and texts of them, in an order that looks like
// chance.
type maker struct {
	seed  uint64
	wrong bool // it may make expressions that are not valid
}

// next returns a number below n.
func (m *maker) next(n int) int {
	m.seed = m.seed*6364136223846793005 + 1442695040888963407
	return int(m.seed >> 33 % uint64(n))
}

// pick returns one of l.
func pick[T any](m *maker, l ...T) T {
	return l[m.next(len(l))]
}

// spoils reports whether something that is not valid shall be made.
func (m *maker) spoils() bool {
	return m.wrong && m.next(40) == 0
}

// expr returns an expression of at most deep levels.
func (m *maker) expr(deep int) api.Expr {
	kind := 1 + m.next(5)
	if deep <= 1 {
		kind = api.ExWindow
	}
	kid := func() api.Expr { return m.expr(deep - 1) }
	num := pick[int64](m, 0, 1, -1, 30, -2, math.MaxInt64, math.MinInt64)
	switch kind {
	case api.ExWindow:
		return m.window()
	case api.ExGroup:
		return group(1+m.next(4), kid(), m.names()...)
	case api.ExJoin:
		return joined(1+m.next(3), kid(), m.expr(deep-1-m.next(deep)), m.names()...)
	case api.ExScale:
		return scale(1+m.next(3), kid(), num)
	}
	return filter(4+m.next(6), kid(), num)
}

// window returns a window.
func (m *maker) window() api.Expr {
	e := sum(pick(m, "a", "cpu", "sum", "on", "every", "_9"))
	e.Func = 1 + m.next(6)
	e.Span = pick[int64](m, 1, 10, 1<<30)
	if m.spoils() {
		e.Span = pick[int64](m, 0, -1, 1<<30+1)
	}
	n := m.next(api.MaxMatch + 1)
	if m.spoils() {
		n = 9 + m.next(3)
	}
	for range n {
		e.Match = append(e.Match, api.Matcher{Kind: 1 + m.next(2), Name: pick(m, "a", "by", "_"), Text: pick(m, "", "x", "\"\xff\n\\", "+")})
	}
	return e
}

// names returns names in their order.
func (m *maker) names() []string {
	n := m.next(api.MaxLabels + 1)
	if m.spoils() {
		n = 9 + m.next(3)
	}
	l := strings.Fields("a b by c every on sum total x y z")
	for len(l) > n {
		at := m.next(len(l))
		l = slices.Delete(l, at, at+1)
	}
	return l
}

// write appends the tokens of a text of e to l, in as many brackets as it
// needs to be as strong as least, and perhaps some more.
func (m *maker) write(l []string, e api.Expr, least int) []string {
	strong := strength(e)
	if strong < least || m.next(8) == 0 {
		return append(m.write(append(l, "("), e, 0), ")")
	}
	sign := strings.Fields("? + - * < <= > >= == !=")[e.Op]
	switch e.Kind {
	case api.ExWindow:
		word := strings.Fields("? sum count min max last increase")[e.Func]
		l = m.writeMatch(append(l, word, "(", e.Metric), e.Match)
		return append(l, "[", strconv.FormatInt(e.Span, 10), "]", ")")
	case api.ExGroup:
		word := strings.Fields("? total many least most")[e.Func]
		l = append(m.writeNames(append(l, word, "by"), e.Names), "(")
		return append(m.write(l, e.Kids[0], 0), ")")
	case api.ExJoin:
		l = append(m.write(l, e.Kids[0], strong), sign)
		if len(e.Names) > 0 || m.next(3) == 0 {
			l = m.writeNames(append(l, "on"), e.Names)
		}
		return m.write(l, e.Kids[1], strong+1)
	case api.ExScale:
		l = m.write(l, e.Kids[0], strong)
	default:
		l = m.write(l, e.Kids[0], 1)
	}
	return append(l, sign, strconv.FormatInt(e.Num, 10))
}

// strength returns how strong an expression holds together: one that is
// compared 0, one by + or - 1, one by * 2, and others 3.
func strength(e api.Expr) int {
	switch {
	case e.Kind == api.ExFilter:
		return 0
	case e.Op == api.OpMul:
		return 2
	case e.Op > 0:
		return 1
	}
	return 3
}

// writeMatch appends the tokens of matchers.
func (m *maker) writeMatch(l []string, match []api.Matcher) []string {
	if len(match) == 0 && m.next(2) == 0 {
		return l
	}
	l = append(l, "{")
	for i, x := range match {
		if i > 0 {
			l = append(l, ",")
		}
		l = append(l, x.Name, strings.Fields("? = !=")[x.Kind], lex.Quote(x.Text))
	}
	return append(l, "}")
}

// writeNames appends the tokens of names in brackets, in any order, and some
// of them again.
func (m *maker) writeNames(l []string, names []string) []string {
	names = slices.Clone(names)
	for range len(names) {
		if m.next(4) == 0 {
			names = append(names, pick(m, names...))
		}
	}
	for i := range names {
		k := m.next(len(names))
		names[i], names[k] = names[k], names[i]
	}
	l = append(l, "(")
	for i, name := range names {
		if i > 0 {
			l = append(l, ",")
		}
		l = append(l, name)
	}
	return append(l, ")")
}

// blank returns what may stand between the tokens a and b, but for the empty
// text if that would make them one.
func (m *maker) blank(a, b string) string {
	if inWord(a[len(a)-1]) && inWord(b[0]) || m.next(2) == 0 {
		return pick(m, " ", "\n", "\t\r", "   ", "#\n", " # sum(a[1]) \"\n", "#!?\xff\n#\n")
	}
	return ""
}

// inWord reports whether c may be in a word or in a number.
func inWord(c byte) bool {
	return c == '_' || c >= '0' && c <= '9' || c >= 'a' && c <= 'z'
}

// text returns tokens as a text.
func (m *maker) text(l []string) string {
	var b strings.Builder
	b.WriteString(pick(m, "", "", " ", "# every\n"))
	for i, s := range l {
		if i > 0 {
			b.WriteString(m.blank(l[i-1], s))
		}
		b.WriteString(s)
	}
	b.WriteString(pick(m, "", "", "\n", "#"))
	return b.String()
}

// P7.1, P7.2: a text of an expression is read as that expression if it is
// valid, whatever blanks, comments and unneeded brackets there are; otherwise
// the error is that of ast.
func TestTheorem(t *testing.T) {
	m := &maker{seed: 2}
	counts := map[api.Errno]int{}
	for i := range 20000 {
		m.wrong = i%2 == 0
		e := m.expr(1 + m.next(9))
		for deep := m.next(3) * m.next(9); deep > 0; deep-- {
			e = pick(m, scale(1, e, 2), filter(4, e, 3), group(1, e), joined(2, m.window(), e, "x"))
		}
		every := pick[int64](m, 1, 5, 1<<30)
		if m.spoils() {
			every = pick[int64](m, 0, 1<<30+1)
		}
		l := m.write(nil, e, 0)
		s := m.text(l)
		if len(s) > 16000 {
			continue
		}
		counts[wantRead(t, s, e)]++
		head := []string{"every", strconv.FormatInt(every, 10), ":"}
		wantReadQuery(t, m.text(append(head, l...)), api.Query{Every: every, Expr: e})
	}
	for _, e := range []api.Errno{api.OK, api.ErrArg, api.ErrLong} {
		if counts[e] < 100 {
			t.Errorf("only %d of error %d", counts[e], e)
		}
	}
}

// wantRead checks that s is read as e, or that the error is that of e.
func wantRead(t *testing.T, s string, e api.Expr) api.Errno {
	t.Helper()
	want := ast.CheckExpr(e)
	got, f := parse.Expr(s)
	if f != (api.Fault{Err: want}) || want == api.OK && !ast.Same(got, e) || want != api.OK && !ast.Same(got, api.Expr{}) {
		t.Fatalf("Expr of %q is %v, %v, not %v", s, got, f, e)
	}
	return want
}

// wantReadQuery checks that s is read as q, or that the error is that of q.
func wantReadQuery(t *testing.T, s string, q api.Query) {
	t.Helper()
	want := ast.Check(q)
	if want != api.OK {
		q = api.Query{}
	}
	got, f := parse.Query(s)
	if f != (api.Fault{Err: want}) || got.Every != q.Every || !ast.Same(got.Expr, q.Expr) {
		t.Fatalf("Query of %q is %v, %v, not %v", s, got, f, q)
	}
}

// P7.2: blanks that separate a - from digits make it a sign.
func TestMinus(t *testing.T) {
	for s, want := range map[string]api.Expr{
		"sum(a[1]) -1":      scale(api.OpSub, sum("a"), 1),
		"sum(a[1]) - 1":     scale(api.OpSub, sum("a"), 1),
		"sum(a[1]) -#\n1":   scale(api.OpSub, sum("a"), 1),
		"sum(a[1]) + 1-2":   scale(api.OpSub, scale(api.OpAdd, sum("a"), 1), 2),
		"sum(a[1]) + 1 -2":  scale(api.OpSub, scale(api.OpAdd, sum("a"), 1), 2),
		"sum(a[1]) +-2":     scale(api.OpAdd, sum("a"), -2),
		"sum(a[1]) - \t -2": scale(api.OpSub, sum("a"), -2),
		"sum(a[1])>-2":      filter(api.OpMore, sum("a"), -2),
		"sum(a[1])<=#-\n-2": filter(api.OpMost, sum("a"), -2),
	} {
		wantExpr(t, s, want)
	}
	for s, at := range map[string]int{"sum(a[1]) + - 2": 12, "sum(a[1]) > - 2": 12, "sum(a[1]) * -#\n2": 12, "sum(a[1]) - - 2": 12, "sum(a[- 1])": 6} {
		wantExprFault(t, s, api.ErrSyntax, at)
	}
}
