package parse_test

import (
	"math"
	"reflect"
	"slices"
	"strconv"
	"strings"
	"testing"
	"unsafe"

	"waterwheel/api"
	"waterwheel/ast"
	"waterwheel/parse"
)

// sum, group, joined, scale and filter make expressions.
func sum(metric string, match ...api.Matcher) api.Expr {
	return api.Expr{Kind: api.ExWindow, Func: api.FnSum, Metric: metric, Match: match, Span: 1}
}

func group(fn int, kid api.Expr, names ...string) api.Expr {
	return api.Expr{Kind: api.ExGroup, Func: fn, Names: names, Kids: []api.Expr{kid}}
}

func joined(op int, a, b api.Expr, names ...string) api.Expr {
	return api.Expr{Kind: api.ExJoin, Op: op, Names: names, Kids: []api.Expr{a, b}}
}

func scale(op int, kid api.Expr, n int64) api.Expr {
	return api.Expr{Kind: api.ExScale, Op: op, Num: n, Kids: []api.Expr{kid}}
}

func filter(op int, kid api.Expr, n int64) api.Expr {
	return api.Expr{Kind: api.ExFilter, Op: op, Num: n, Kids: []api.Expr{kid}}
}

// is and not make matchers.
func is(name, text string) api.Matcher {
	return api.Matcher{Kind: api.MatchIs, Name: name, Text: text}
}

func not(name, text string) api.Matcher {
	return api.Matcher{Kind: api.MatchNot, Name: name, Text: text}
}

// wantExpr checks that s is the text of an expression, alone and in a query.
func wantExpr(t *testing.T, s string, want api.Expr) {
	t.Helper()
	if got, f := parse.Expr(s); f != (api.Fault{}) || !ast.Same(got, want) {
		t.Errorf("Expr of %.300q is %v, %v, not %v", s, got, f, want)
	}
	if got, f := parse.Query("every 7: " + s); f != (api.Fault{}) || got.Every != 7 || !ast.Same(got.Expr, want) {
		t.Errorf("Query of %.300q is %v, %v, not %v", s, got, f, want)
	}
}

// wantMatch checks that s is the text of matchers, alone and in a window.
func wantMatch(t *testing.T, s string, want ...api.Matcher) {
	t.Helper()
	if got, f := parse.Match(s); f != (api.Fault{}) || !slices.Equal(got, want) {
		t.Errorf("Match of %.300q is %v, %v, not %v", s, got, f, want)
	}
	wantExpr(t, "sum(m"+s+"[1])", sum("m", want...))
}

// wantExprFault checks that s has a fault as the text of an expression, alone
// and in a query, which has nothing else.
func wantExprFault(t *testing.T, s string, want api.Errno, at int) {
	t.Helper()
	if got, f := parse.Expr(s); f != (api.Fault{Err: want, At: at}) || !reflect.DeepEqual(got, api.Expr{}) {
		t.Errorf("Expr of %.300q is %v, %v, not error %d at %d", s, got, f, want, at)
	}
	const before = "every 7: "
	if at > 0 || want == api.ErrSyntax || want == api.ErrLex {
		at += len(before)
	}
	wantQueryFault(t, before+s, want, at)
}

// wantQueryFault checks that s has a fault as the text of a query.
func wantQueryFault(t *testing.T, s string, want api.Errno, at int) {
	t.Helper()
	if got, f := parse.Query(s); f != (api.Fault{Err: want, At: at}) || !reflect.DeepEqual(got, api.Query{}) {
		t.Errorf("Query of %.300q is %v, %v, not error %d at %d", s, got, f, want, at)
	}
}

// wantMatchFault checks that s has a fault as the text of matchers.
func wantMatchFault(t *testing.T, s string, want api.Errno, at int) {
	t.Helper()
	if got, f := parse.Match(s); f != (api.Fault{Err: want, At: at}) || got != nil {
		t.Errorf("Match of %.300q is %v, %v, not error %d at %d", s, got, f, want, at)
	}
}

// P7.1: the chapter's examples.
func TestExamples(t *testing.T) {
	cpu := api.Expr{Kind: api.ExWindow, Func: api.FnSum, Metric: "cpu", Span: 10}
	q, f := parse.Query("every 5: total by (a) (sum(cpu[10])) > 3")
	if f != (api.Fault{}) || q.Every != 5 || !ast.Same(q.Expr, filter(api.OpMore, group(api.GrTotal, cpu, "a"), 3)) {
		t.Error(q, f)
	}
	wantExpr(t, "sum(a[1]) + on (x) sum(b[1]) * 2", joined(api.OpAdd, sum("a"), scale(api.OpMul, sum("b"), 2), "x"))
	wantExprFault(t, "sum(cpu[0])", api.ErrArg, 0)
	wantExprFault(t, "sum(cpu)", api.ErrSyntax, 7)
}

// P7.1: windows of each function, with spans at their limits.
func TestWindows(t *testing.T) {
	for fn, word := range map[int]string{1: "sum", 2: "count", 3: "min", 4: "max", 5: "last", 6: "increase"} {
		for _, span := range []int64{1, 2, 10, 1<<30 - 1, 1 << 30} {
			want := api.Expr{Kind: 1, Func: fn, Metric: "cpu", Span: span}
			wantExpr(t, word+"(cpu["+strconv.FormatInt(span, 10)+"])", want)
		}
		for _, span := range []int64{0, -1, -1 << 30, 1<<30 + 1, 1 << 40, math.MaxInt64, math.MinInt64} {
			wantExprFault(t, word+"(cpu["+strconv.FormatInt(span, 10)+"])", api.ErrArg, 0)
		}
	}
}

// P7.1: groups of each function.
func TestGroups(t *testing.T) {
	for fn, word := range map[int]string{1: "total", 2: "many", 3: "least", 4: "most"} {
		wantExpr(t, word+" by (a) (sum(m[1]))", group(fn, sum("m"), "a"))
		wantExpr(t, word+" by () (sum(m[1]))", group(fn, sum("m")))
		wantExpr(t, word+" by () ("+word+" by (a) (sum(m[1])))", group(fn, group(fn, sum("m"), "a")))
		wantExpr(t, word+" by (a) ((sum(m[1])))", group(fn, sum("m"), "a"))
		wantExpr(t, word+" by (a) (sum(m[1]) > 2) < 3", filter(api.OpLess, group(fn, filter(api.OpMore, sum("m"), 2), "a"), 3))
		wantExpr(t, word+" by (a) (sum(m[1]) + 1) + 2", scale(api.OpAdd, group(fn, scale(api.OpAdd, sum("m"), 1), "a"), 2))
	}
}

// P7.1: names are sorted, and repeated ones occur once, of groups and of joins.
func TestNames(t *testing.T) {
	long := strings.Repeat("z", 24)
	for s, want := range map[string][]string{
		"": nil, "a": {"a"}, "a, b": {"a", "b"}, "b, a": {"a", "b"}, "a, a": {"a"}, "b, a, b, a, a": {"a", "b"},
		"c, aa, b, a": {"a", "aa", "b", "c"}, "b_, b, _, b1, b_": {"_", "b", "b1", "b_"}, long + ", y": {"y", long},
		"h, g, f, e, d, c, b, a":                               {"a", "b", "c", "d", "e", "f", "g", "h"},
		"h, g, f, e, d, c, b, a, h, g, f, e, d, c, b, a, a, a": {"a", "b", "c", "d", "e", "f", "g", "h"},
		strings.Repeat("a, ", 1000) + "a":                      {"a"},
		"on, by, every, sum, total":                            {"by", "every", "on", "sum", "total"},
	} {
		wantExpr(t, "total by ("+s+") (sum(m[1]))", group(api.GrTotal, sum("m"), want...))
		for op, sign := range []string{1: "+", 2: "-", 3: "*"} {
			if op > 0 {
				wantExpr(t, "sum(m[1]) "+sign+" on ("+s+") sum(n[1])", joined(op, sum("m"), sum("n"), want...))
			}
		}
	}
	for _, s := range []string{"i, h, g, f, e, d, c, b, a", "a, b, c, d, e, f, g, h, a, h, i"} {
		wantExprFault(t, "total by ("+s+") (sum(m[1]))", api.ErrArg, 0)
		wantExprFault(t, "sum(m[1]) + on ("+s+") sum(m[1])", api.ErrArg, 0)
	}
}

// P7.1: matchers, which keep their order, and at their limits.
func TestMatch(t *testing.T) {
	long, text := strings.Repeat("n", 24), strings.Repeat("t", 64)
	wantMatch(t, `{}`)
	wantMatch(t, `{ a = "x" }`, is("a", "x"))
	wantMatch(t, `{a!="x"}`, not("a", "x"))
	wantMatch(t, `{b="x", a!="", b="x", a!="y"}`, is("b", "x"), not("a", ""), is("b", "x"), not("a", "y"))
	wantMatch(t, `{a="\x00\"\\\xff", b="=\"}"}`, is("a", "\x00\"\\\xff"), is("b", `="}`))
	wantMatch(t, `{`+long+`="`+text+`"}`, is(long, text))
	wantMatch(t, `{on="by", every!="sum"}`, is("on", "by"), not("every", "sum"))
	for n := 1; n < 300; n++ {
		s := "{" + strings.Repeat(`a="x",`, n-1) + `a="x"}`
		if n <= 8 {
			wantMatch(t, s, slices.Repeat([]api.Matcher{is("a", "x")}, n)...)
			continue
		}
		wantMatchFault(t, s, api.ErrLong, 0)
		wantExprFault(t, "sum(m"+s+"[1])", api.ErrArg, 0)
	}
}

// P7.1: operators are grouped from left to right, and * before + and -.
func TestOperators(t *testing.T) {
	const add, sub, mul = api.OpAdd, api.OpSub, api.OpMul
	a, b, c, d := sum("a"), sum("b"), sum("c"), sum("d")
	for s, want := range map[string]api.Expr{
		"A":                       a,
		"((A))":                   a,
		"A + B":                   joined(add, a, b),
		"A - B":                   joined(sub, a, b),
		"A * B":                   joined(mul, a, b),
		"A + B + C":               joined(add, joined(add, a, b), c),
		"A - B + C - D":           joined(sub, joined(add, joined(sub, a, b), c), d),
		"A - (B + C)":             joined(sub, a, joined(add, b, c)),
		"A * B * C":               joined(mul, joined(mul, a, b), c),
		"A * (B * C)":             joined(mul, a, joined(mul, b, c)),
		"A + B * C":               joined(add, a, joined(mul, b, c)),
		"A * B + C":               joined(add, joined(mul, a, b), c),
		"A * B - C * D":           joined(sub, joined(mul, a, b), joined(mul, c, d)),
		"(A + B) * C":             joined(mul, joined(add, a, b), c),
		"A * (B + C) * D":         joined(mul, joined(mul, a, joined(add, b, c)), d),
		"A + 1":                   scale(add, a, 1),
		"A - 1":                   scale(sub, a, 1),
		"A -1":                    scale(sub, a, 1),
		"A-1":                     scale(sub, a, 1),
		"A - -1":                  scale(sub, a, -1),
		"A--1":                    scale(sub, a, -1),
		"A + -1":                  scale(add, a, -1),
		"A * -2":                  scale(mul, a, -2),
		"A * 0":                   scale(mul, a, 0),
		"A * 2 * 3":               scale(mul, scale(mul, a, 2), 3),
		"A + 2 - 3":               scale(sub, scale(add, a, 2), 3),
		"A * 2 + 3":               scale(add, scale(mul, a, 2), 3),
		"A + B * 2":               joined(add, a, scale(mul, b, 2)),
		"(A + B) * 2":             scale(mul, joined(add, a, b), 2),
		"A + 2 + B":               joined(add, scale(add, a, 2), b),
		"A * 2 * B":               joined(mul, scale(mul, a, 2), b),
		"A * B * 2":               scale(mul, joined(mul, a, b), 2),
		"A * (B * 2)":             joined(mul, a, scale(mul, b, 2)),
		"A - 1 - B * 2 - 3":       scale(sub, joined(sub, scale(sub, a, 1), scale(mul, b, 2)), 3),
		"A + on () B":             joined(add, a, b),
		"A + on (x) B + on (y) C": joined(add, joined(add, a, b, "x"), c, "y"),
		"A + on (x) B * on (y) C": joined(add, a, joined(mul, b, c, "y"), "x"),
		"A * on (x) B + on (y) C": joined(add, joined(mul, a, b, "x"), c, "y"),
		"A * on (x) (B + 1) * 2":  scale(mul, joined(mul, a, scale(add, b, 1), "x"), 2),
		"(A > 1) + (B < 2)":       joined(add, filter(api.OpMore, a, 1), filter(api.OpLess, b, 2)),
		"(A > 1) * 2 > 3":         filter(api.OpMore, scale(mul, filter(api.OpMore, a, 1), 2), 3),
		"((A > 1) > 2) > 3":       filter(api.OpMore, filter(api.OpMore, filter(api.OpMore, a, 1), 2), 3),
		"A + B > 1":               filter(api.OpMore, joined(add, a, b), 1),
		"A * 2 > 1":               filter(api.OpMore, scale(mul, a, 2), 1),
	} {
		wantExpr(t, strings.NewReplacer("A", "sum(a[1])", "B", "sum(b[1])", "C", "sum(c[1])", "D", "sum(d[1])").Replace(s), want)
	}
}

// P7.1: each comparison and each operator with numbers at their limits.
func TestNumbers(t *testing.T) {
	for _, n := range []int64{0, 1, -1, 42, -42, math.MaxInt64, math.MinInt64} {
		num := strconv.FormatInt(n, 10)
		for op, sign := range strings.Fields("+ - * < <= > >= == !=") {
			kind := scale
			if op+1 >= api.OpLess {
				kind = filter
			}
			for _, blank := range []string{"", " ", "\n# > 1\n"} {
				wantExpr(t, "sum(a[1])"+blank+sign+blank+num, kind(op+1, sum("a"), n))
				wantExpr(t, "(sum(a[1])"+blank+sign+num+")", kind(op+1, sum("a"), n))
			}
			wantExprFault(t, "sum(a[1]) "+sign+" - 5", api.ErrSyntax, len("sum(a[1]) "+sign+" "))
		}
	}
	wantExprFault(t, "sum(a[1]) -9223372036854775808", api.ErrLex, 11)
	wantExprFault(t, "sum(a[1]) > 9223372036854775808", api.ErrLex, 12)
}

// P7.1: words of the grammar are ordinary words where it has word.
func TestWordsOfGrammar(t *testing.T) {
	for _, w := range strings.Fields("sum count min max last increase total many least most every by on") {
		match := api.Matcher{Kind: api.MatchIs, Name: w, Text: w}
		wantExpr(t, `max(`+w+`{`+w+`="`+w+`"}[1])`, api.Expr{Kind: 1, Func: 4, Metric: w, Match: []api.Matcher{match}, Span: 1})
		wantExpr(t, "most by ("+w+") (sum("+w+"[1]))", group(api.GrMost, sum(w), w))
		wantExpr(t, "sum("+w+"[1]) - on ("+w+") sum("+w+"[1])", joined(api.OpSub, sum(w), sum(w), w))
	}
}

// P7.1: Every, at its limits.
func TestEvery(t *testing.T) {
	for _, every := range []int64{1, 2, 5, 1<<30 - 1, 1 << 30} {
		q, f := parse.Query("every " + strconv.FormatInt(every, 10) + ":sum(a[1])")
		if f != (api.Fault{}) || q.Every != every || !ast.Same(q.Expr, sum("a")) {
			t.Errorf("Every %d: %v, %v", every, q, f)
		}
	}
	for _, every := range []string{"0", "1073741825", "9223372036854775807"} {
		wantQueryFault(t, "every "+every+": sum(a[1])", api.ErrArg, 0)
		// Every is looked at before the size of the expression.
		wantQueryFault(t, "every "+every+": sum(a[1])"+strings.Repeat("+1", 300), api.ErrArg, 0)
	}
}

// P7.1: Func, of each word and of others.
func TestFunc(t *testing.T) {
	for s, want := range map[string][2]int{
		"sum": {1, 1}, "count": {1, 2}, "min": {1, 3}, "max": {1, 4}, "last": {1, 5}, "increase": {1, 6},
		"total": {2, 1}, "many": {2, 2}, "least": {2, 3}, "most": {2, 4},
	} {
		if kind, fn, ok := parse.Func(s); !ok || kind != want[0] || fn != want[1] {
			t.Errorf("Func of %s is %d, %d, %v", s, kind, fn, ok)
		}
		for _, other := range []string{s + " ", " " + s, s + "s", s[1:], s[:len(s)-1], strings.ToUpper(s), s + "\x00", s + s, `"` + s + `"`} {
			wantNoFunc(t, other)
		}
	}
	for _, s := range []string{"", " ", "every", "by", "on", "a", "_", "+", "(", "\xff", strings.Repeat("sum", 1<<18)} {
		wantNoFunc(t, s)
	}
}

// wantNoFunc checks that Func finds nothing.
func wantNoFunc(t *testing.T, s string) {
	t.Helper()
	if kind, fn, ok := parse.Func(s); ok || kind != 0 || fn != 0 {
		t.Errorf("Func of %.90q is %d, %d, %v", s, kind, fn, ok)
	}
}

// P7.1 with rule 3: no two lists of what is returned share memory, spare
// capacity included, and no text is a part of the text that was read.
func TestMemory(t *testing.T) {
	s := `every 5: total by (c, b, a) (sum(cpu{a="x", b!="y", c="x"}[1]) * on (a, b, c) sum(cpu{a="x", b!="y", c="x"}[1])) + on (c, b, a, a, a) sum(cpu[1])`
	q, f := parse.Query(s)
	if f != (api.Fault{}) {
		t.Fatal(f)
	}
	var used []span
	var own func(e api.Expr)
	own = func(e api.Expr) {
		used = append(used, spanOf(e.Kids), spanOf(e.Names), spanOf(e.Match))
		for _, text := range append(append([]string{e.Metric}, e.Names...), texts(e.Match)...) {
			if inside(text, s) {
				t.Errorf("%q is a part of the text", text)
			}
		}
		for _, kid := range e.Kids {
			own(kid)
		}
	}
	own(q.Expr)
	for i, a := range used {
		for _, b := range used[:i] {
			if a.size > 0 && b.size > 0 && a.at < b.at+b.size && b.at < a.at+a.size {
				t.Errorf("%v and %v share memory", a, b)
			}
		}
	}
}

// A span is where a list lies.
type span struct {
	at, size uintptr
}

// spanOf returns where l lies, spare capacity included.
func spanOf[E any](l []E) span {
	var one E
	return span{uintptr(unsafe.Pointer(unsafe.SliceData(l))), uintptr(cap(l)) * unsafe.Sizeof(one)}
}

// inside reports whether part lies in s.
func inside(part, s string) bool {
	at, from := uintptr(unsafe.Pointer(unsafe.StringData(part))), uintptr(unsafe.Pointer(unsafe.StringData(s)))
	return len(part) > 0 && at >= from && at < from+uintptr(len(s))
}

// texts returns the names and the texts of matchers.
func texts(l []api.Matcher) []string {
	var all []string
	for _, m := range l {
		all = append(all, m.Name, m.Text)
	}
	return all
}

// P7.1 with T6: what is done to a result changes no later one.
func TestAgain(t *testing.T) {
	const s = `total by (b, a) (sum(cpu{a="x"}[1])) + on (x) sum(b[1])`
	want := joined(api.OpAdd, group(api.GrTotal, sum("cpu", is("a", "x")), "a", "b"), sum("b"), "x")
	for range 3 {
		wantExpr(t, s, want)
		e, _ := parse.Expr(s)
		e.Kids[0].Names[0], e.Kids[0].Kids[0].Match[0].Text, e.Names[0] = "z", "z", "z"
		e.Kids[1] = api.Expr{}
		m, _ := parse.Match(`{a="x"}`)
		m[0] = api.Matcher{}
		wantMatch(t, `{a="x"}`, is("a", "x"))
	}
}
