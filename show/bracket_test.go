package show_test

import (
	"strconv"
	"strings"
	"testing"

	"waterwheel/api"
	"waterwheel/ast"
	"waterwheel/lex"
	"waterwheel/parse"
	"waterwheel/show"
)

// P8.1: brackets around each kind of kid, at each place, written out.
func TestBrackets(t *testing.T) {
	const add, sub, mul, more = api.OpAdd, api.OpSub, api.OpMul, api.OpMore
	a, b, c, d := sum("a"), sum("b"), sum("c"), sum("d")
	for s, e := range map[string]api.Expr{
		"A + B + C":                joined(add, joined(add, a, b), c),
		"A - B + C":                joined(add, joined(sub, a, b), c),
		"A * B + C":                joined(add, joined(mul, a, b), c),
		"(A + B) * C":              joined(mul, joined(add, a, b), c),
		"(A - B) * C":              joined(mul, joined(sub, a, b), c),
		"A * B * C":                joined(mul, joined(mul, a, b), c),
		"A + (B + C)":              joined(add, a, joined(add, b, c)),
		"A + (B - C)":              joined(add, a, joined(sub, b, c)),
		"A - (B + C)":              joined(sub, a, joined(add, b, c)),
		"A - (B - C)":              joined(sub, a, joined(sub, b, c)),
		"A - B * C":                joined(sub, a, joined(mul, b, c)),
		"A * (B - C)":              joined(mul, a, joined(sub, b, c)),
		"A * (B * C)":              joined(mul, a, joined(mul, b, c)),
		"A + 1 + B":                joined(add, scale(add, a, 1), b),
		"A * 1 + B":                joined(add, scale(mul, a, 1), b),
		"(A - 1) * B":              joined(mul, scale(sub, a, 1), b),
		"A * 1 * B":                joined(mul, scale(mul, a, 1), b),
		"A + (B + 1)":              joined(add, a, scale(add, b, 1)),
		"A - (B - 1)":              joined(sub, a, scale(sub, b, 1)),
		"A + B * 1":                joined(add, a, scale(mul, b, 1)),
		"A * (B + 1)":              joined(mul, a, scale(add, b, 1)),
		"A * (B * 1)":              joined(mul, a, scale(mul, b, 1)),
		"A + B - 1":                scale(sub, joined(add, a, b), 1),
		"A * B - 1":                scale(sub, joined(mul, a, b), 1),
		"(A + B) * 1":              scale(mul, joined(add, a, b), 1),
		"A * B * 1":                scale(mul, joined(mul, a, b), 1),
		"A + 1 - 2":                scale(sub, scale(add, a, 1), 2),
		"A * 1 - 2":                scale(sub, scale(mul, a, 1), 2),
		"(A - 1) * 2":              scale(mul, scale(sub, a, 1), 2),
		"A * 1 * 2":                scale(mul, scale(mul, a, 1), 2),
		"A + 1 > 2":                filter(more, scale(add, a, 1), 2),
		"A * 1 > 2":                filter(more, scale(mul, a, 1), 2),
		"A + B > 2":                filter(more, joined(add, a, b), 2),
		"A * B > 2":                filter(more, joined(mul, a, b), 2),
		"(A > 1) > 2":              filter(more, filter(more, a, 1), 2),
		"(A > 1) + 2":              scale(add, filter(more, a, 1), 2),
		"(A > 1) * 2":              scale(mul, filter(more, a, 1), 2),
		"(A > 1) + B":              joined(add, filter(more, a, 1), b),
		"A + (B > 1)":              joined(add, a, filter(more, b, 1)),
		"(A > 1) * (B > 2)":        joined(mul, filter(more, a, 1), filter(more, b, 2)),
		"A - -1 - (B + -2) * -3":   joined(sub, scale(sub, a, -1), scale(mul, scale(add, b, -2), -3)),
		"A + B * C - D":            joined(sub, joined(add, a, joined(mul, b, c)), d),
		"(A + B) * (C - D)":        joined(mul, joined(add, a, b), joined(sub, c, d)),
		"A + B - (C + D)":          joined(sub, joined(add, a, b), joined(add, c, d)),
		"A * B + C * D":            joined(add, joined(mul, a, b), joined(mul, c, d)),
		"A + on (x) (B + C)":       joined(add, a, joined(add, b, c), "x"),
		"A + on (x) B * on (y) C":  joined(add, a, joined(mul, b, c, "y"), "x"),
		"A - on (x) B - on (y) C":  joined(sub, joined(sub, a, b, "x"), c, "y"),
		"(A - on (x) B) * C":       joined(mul, joined(sub, a, b, "x"), c),
		"A * on (x, y) (B > 1)":    joined(mul, a, filter(more, b, 1), "x", "y"),
		"many by (x) (A > 1) * 2":  scale(mul, group(api.GrMany, filter(more, a, 1), "x"), 2),
		"A * many by () (B + C)":   joined(mul, a, group(api.GrMany, joined(add, b, c))),
		"many by () (A + 1) > 2":   filter(more, group(api.GrMany, scale(add, a, 1)), 2),
		"(many by () (A) > 2) - 1": scale(sub, filter(more, group(api.GrMany, a), 2), 1),
	} {
		wantText(t, e, strings.NewReplacer("A", "sum(a[1])", "B", "sum(b[1])", "C", "sum(c[1])", "D", "sum(d[1])").Replace(s))
	}
}

// needs reports whether the at-th kid of e is in brackets, as the chapter says
// it.
func needs(e api.Expr, at int) bool {
	kid := e.Kids[at]
	operation := kid.Kind == api.ExJoin || kid.Kind == api.ExScale
	weak := kid.Op == api.OpAdd || kid.Op == api.OpSub
	switch {
	case e.Kind == api.ExGroup:
		return false
	case kid.Kind == api.ExFilter:
		return true
	case e.Kind == api.ExFilter || !operation:
		return false
	case e.Op == api.OpMul && weak:
		return true
	}
	return at == 1 && weak == (e.Op != api.OpMul)
}

// A writer writes expressions from templates. It writes no brackets around one
// kid, counted in the order in which they are written.
type writer struct {
	around int // how many kids were in brackets
	except int
}

// text returns the text of e.
func (w *writer) text(e api.Expr) string {
	const signs = "? + - * < <= > >= == !="
	template := map[int]string{
		api.ExWindow: "FUNC(METRICMATCH[SPAN])", api.ExGroup: "FUNC by (NAMES) (KID1)", api.ExJoin: "KID1 SIGN ON KID2",
		api.ExScale: "KID1 SIGN NUM", api.ExFilter: "KID1 SIGN NUM",
	}[e.Kind]
	if len(e.Names) > 0 {
		template = strings.Replace(template, "ON", "on (NAMES)", 1)
	}
	functions := map[int]string{api.ExWindow: "? sum count min max last increase", api.ExGroup: "? total many least most"}[e.Kind]
	parts := []string{
		"ON ", "", "SIGN", strings.Fields(signs)[e.Op], "NUM", decimal(e.Num), "SPAN", decimal(e.Span),
		"METRIC", e.Metric, "MATCH", matchText(e.Match), "NAMES", strings.Join(e.Names, ", "),
	}
	if functions != "" {
		parts = append(parts, "FUNC", strings.Fields(functions)[e.Func])
	}
	for at := range e.Kids {
		parts = append(parts, "KID"+strconv.Itoa(at+1), w.kid(e, at))
	}
	return strings.NewReplacer(parts...).Replace(template)
}

// kid returns the text of a kid of e.
func (w *writer) kid(e api.Expr, at int) string {
	inside := w.text(e.Kids[at])
	if !needs(e, at) {
		return inside
	}
	w.around++
	if w.around == w.except {
		return inside
	}
	return "(" + inside + ")"
}

// matchText returns the text of matchers.
func matchText(l []api.Matcher) string {
	var texts []string
	for _, m := range l {
		texts = append(texts, m.Name+strings.Fields("? = !=")[m.Kind]+lex.Quote(m.Text))
	}
	if len(texts) == 0 {
		return ""
	}
	return "{" + strings.Join(texts, ", ") + "}"
}

// P8.1: each kind of expression, with each kind of kid at each place, and these
// with each kind of kid.
func TestAllPairs(t *testing.T) {
	a := sum("a")
	over := func(kid api.Expr) []api.Expr {
		l := []api.Expr{kid, group(api.GrMost, kid, "x"), filter(api.OpNe, kid, -1), filter(api.OpMost, kid, 1)}
		for op := api.OpAdd; op <= api.OpMul; op++ {
			l = append(l, scale(op, kid, -1), scale(op, kid, 2), joined(op, kid, a), joined(op, a, kid), joined(op, kid, kid, "x"))
		}
		return l
	}
	for _, x := range over(a) {
		for _, y := range over(x) {
			for _, z := range over(y) {
				w := &writer{}
				wantText(t, z, w.text(z))
			}
		}
	}
}

// P8.1: no bracket is unneeded: without it, the text is that of another
// expression, or of none.
func TestNecessary(t *testing.T) {
	m := &maker{seed: 5}
	removed := 0
	for range 20000 {
		e := m.expr(1 + m.next(6))
		for except := 1; ; except++ {
			w := &writer{except: except}
			s := w.text(e)
			if w.around < except {
				break
			}
			removed++
			if other, f := parse.Expr(s); f == (api.Fault{}) && ast.Same(other, e) {
				t.Fatalf("%s is the text of %v too", s, e)
			}
		}
	}
	if removed < 3000 {
		t.Errorf("only %d brackets", removed)
	}
}

// P8.1, P8.2: many expressions: their texts are what another writer writes, and
// are read as those expressions again; those that are not valid have the error
// of ast.
func TestTheorem(t *testing.T) {
	m := &maker{seed: 7}
	counts := map[api.Errno]int{}
	for i := range 20000 {
		m.wrong = i%2 == 0
		e := m.expr(1 + m.next(9))
		for more := m.next(3) * m.next(9); more > 0; more-- {
			e = pick(m, scale(1, e, 2), filter(4, e, 3), group(1, e), joined(2, m.window(), e, "x"))
		}
		want := ast.CheckExpr(e)
		counts[want]++
		if want != api.OK {
			wantError(t, e, want)
			continue
		}
		w := &writer{}
		s := w.text(e)
		wantText(t, e, s)
		wantSameText(t, s)
	}
	for _, e := range []api.Errno{api.OK, api.ErrArg, api.ErrLong} {
		if counts[e] < 200 {
			t.Errorf("only %d of error %d", counts[e], e)
		}
	}
}

// wantSameText checks that what is read from the text of an expression, with
// other blanks, has this text again.
func wantSameText(t *testing.T, s string) {
	t.Helper()
	if len(s) > api.MaxQuery/2 {
		return
	}
	l, f := lex.All(s)
	e, g := parse.Expr("(" + lex.Join(l) + ")")
	if got, err := show.Expr(e); f != g || err != api.OK || got != s {
		t.Fatalf("the text of %q is %q, %v, %v, %d", s, got, f, g, err)
	}
}
