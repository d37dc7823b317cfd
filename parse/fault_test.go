package parse_test

import (
	"strings"
	"testing"

	"waterwheel/api"
	"waterwheel/ast"
	"waterwheel/parse"
)

// P7.1: the first token with which an expression cannot continue, marked by a
// ~ before it.
func TestSyntaxOfExpr(t *testing.T) {
	for _, s := range strings.Split(strings.TrimSpace(`
~
~ # nothing
~5
~a
~"sum" (a[1])
~"("sum(a[1]))
~)
~+ sum(a[1])
~every 5: sum(a[1])
~by (a) (sum(a[1]))
~on (a) sum(a[1])
~{}
sum ~
sum ~a[1]
sum ~"("a[1])
sum ~by (a) (sum(a[1]))
sum(~
sum(~)
sum(~1)
sum(~"a"[1])
~cpu[1]
sum(~{a="x"}[1])
sum(sum~(a[1]))
sum(a~)
sum(a ~b[1])
sum(a ~"["1])
sum(a[~])
sum(a[~a])
sum(a[~"1"])
sum(a[~-a])
sum(a[~- 1])
sum(a[~+1])
sum(a[1~)
sum(a[1 ~2])
sum(a[1 ~- 2])
sum(a[1] ~
sum(a[1] ~{})
sum(a[1]~[1])
sum(a[1]~, a[1])
sum(a[1]~]
sum(a[1]) ~)
sum(a[1]) ~sum(b[1])
sum(a[1]) ~5
sum(a[1]) ~"+" 5
sum(a[1]) ~on (a) + sum(b[1])
sum(a[1]) ~by (a)
sum(a[1]) ~(sum(b[1]))
sum(a[1]) ~= 5
sum(a[1]) ~: 5
sum(a{~
sum(a{~,}[1])
sum(a{~"a"="x"}[1])
sum(a{a~}[1])
sum(a{a ~"x"}[1])
sum(a{a~=="x"}[1])
sum(a{a ~> "x"}[1])
sum(a{a ~"=" "x"}[1])
sum(a{a=~}[1])
sum(a{a=~x}[1])
sum(a{a=~1}[1])
sum(a{a!=~="x"}[1])
sum(a{a="x"~)
sum(a{a="x"~]
sum(a{a="x" ~b="x"}[1])
sum(a{a="x",~}[1])
sum(a{a="x",~,b="y"}[1])
sum(a{a="x"~:b="y"}[1])
sum(a{a="x"}~{b="y"}[1])
sum(a{a="x"}~)
total ~(sum(a[1]))
total ~"by" (a) (sum(a[1]))
total by ~a (sum(a[1]))
total by (~"a") (sum(a[1]))
total by (~1) (sum(a[1]))
total by (~,a) (sum(a[1]))
total by (a~=b) (sum(a[1]))
total by (a ~b) (sum(a[1]))
total by (a,~) (sum(a[1]))
total by (a,~,b) (sum(a[1]))
total by (a ~(sum(a[1]))
total by ~{a} (sum(a[1]))
total by (a) ~sum(a[1])
total by (a) ~
total by (a) (~)
total by (a) (~5)
total by (a) (sum(a[1]) ~
total by (a) (sum(a[1])~, sum(b[1]))
(~)
(~5)
(~-5)
(sum(a[1]) ~
(sum(a[1]) + sum(b[1]) ~]
(sum(a[1]) > 5 ~> 6)
sum(a[1]) + ~
sum(a[1]) * ~
sum(a[1]) - ~- 5
sum(a[1]) - ~a
sum(a[1]) + ~+ 5
sum(a[1]) + ~"5"
sum(a[1]) + ~by (a) sum(b[1])
sum(a[1]) * ~* sum(b[1])
sum(a[1]) + 5 ~* 6
sum(a[1]) + 5 ~* sum(b[1])
sum(a[1]) * 5 ~6
sum(a[1]) + on ~sum(b[1])
sum(a[1]) + on ~
sum(a[1]) + on (~+) sum(b[1])
sum(a[1]) + on (x) ~
sum(a[1]) + on (x) ~5
sum(a[1]) * on (x) ~5
sum(a[1]) * on (x) ~-5
sum(a[1]) + on (x) ~on (y) sum(b[1])
sum(a[1]) + on (x ~+ sum(b[1])
sum(a[1]) + ~"on" (x) sum(b[1])
sum(a[1]) > ~
sum(a[1]) > ~sum(b[1])
sum(a[1]) > ~on (x) 5
sum(a[1]) > ~- 5
sum(a[1]) > ~(5)
sum(a[1]) > ~"5"
sum(a[1]) > ~= 5
sum(a[1]) > 5 ~> 6
sum(a[1]) > 5 ~+ 6
sum(a[1]) > 5 ~- 6
sum(a[1]) > 5 ~* 6
sum(a[1]) > 5 ~)
sum(a[1]) > 5 ~5
sum(a[1]) == ~== 5
`), "\n") {
		text, after, found := strings.Cut(s, "~")
		if !found {
			t.Fatal(s)
		}
		at := len(text)
		// The end is behind what is skipped.
		if text += after; strings.HasPrefix(after, " #") || after == "" {
			at = len(text)
		}
		wantExprFault(t, text, api.ErrSyntax, at)
	}
}

// P7.1: the first token with which a query cannot continue.
func TestSyntaxOfQuery(t *testing.T) {
	for s, at := range map[string]int{
		"": 0, "   ": 3, "sum(a[1])": 0, "5: sum(a[1])": 0, `"every" 5: sum(a[1])`: 0, "every": 5, "every: sum(a[1])": 5,
		"every a: sum(a[1])": 6, `every "5": sum(a[1])`: 6, "every -5: sum(a[1])": 6, "every - 5: sum(a[1])": 6, "every 5": 7,
		"every 5 sum(a[1])": 8, `every 5 ":" sum(a[1])`: 8, "every 5 6": 8, "every 5:": 8, "every 5: ": 9, "every 5:: sum(a[1])": 8,
		"every 5: every 5: sum(a[1])": 9, "every 5: sum(a[1]) > 3 : 4": 23, "every 5: sum(a[1]) every": 19, "every every 5: sum(a[1])": 6,
		"on 5: sum(a[1])": 0, "every (5): sum(a[1])": 6, "every_5: sum(a[1])": 0, "every 5: {}": 9,
	} {
		wantQueryFault(t, s, api.ErrSyntax, at)
	}
}

// P7.1: the first token with which matchers cannot continue.
func TestSyntaxOfMatch(t *testing.T) {
	for s, at := range map[string]int{
		"": 0, "# {}": 4, "a": 0, "}": 0, `"{"}`: 0, "{": 1, "{a": 2, "{a=": 3, `{a="x"`: 6, `{a="x",`: 7, `{a="x",}`: 7, "{,}": 1, "{a}": 2,
		"{a=b}": 3, "{a=1}": 3, `{a=="x"}`: 2, `{"a"="x"}`: 1, `{1="x"}`: 1, `{a="x" b="y"}`: 7, "{}}": 2, "{} {}": 3,
		"{}[1]": 2, "({})": 0, "[]": 0, `{a="x"}, {b="x"}`: 7, `{a<"x"}`: 2, `{a "=" "x"}`: 3, `{a="x"b="y"}`: 6, `{a="x")`: 6, `{a="x"](`: 6,
	} {
		wantMatchFault(t, s, api.ErrSyntax, at)
	}
}

// P7.1: faults of tokens come first, wherever they are.
func TestLexFirst(t *testing.T) {
	wantExprFault(t, "sum(a[0]) ?", api.ErrLex, 10)
	wantExprFault(t, ") ) ?", api.ErrLex, 4)
	wantExprFault(t, strings.Repeat("(", 100)+"!", api.ErrLex, 100)
	wantExprFault(t, "sum(a[1]) > 007", api.ErrLex, 12)
	wantExprFault(t, "sum(a{a=\"\n\"}[1])", api.ErrLex, 8)
	wantExprFault(t, "sum("+strings.Repeat("a", 25)+"[1])", api.ErrLex, 4)
	wantQueryFault(t, "sum sum Sum", api.ErrLex, 8)
	wantMatchFault(t, `{{{"`, api.ErrLex, 3)
	wantMatchFault(t, `{a="`+strings.Repeat("x", 65)+`"}`, api.ErrLex, 3)
}

// P7.1: texts of the greatest length, and longer ones.
func TestLongTexts(t *testing.T) {
	fill := func(s string, n int) string { return s + strings.Repeat(" ", n-len(s)) }
	for _, s := range []string{"sum(a[1])", "(sum(a[1]))#"} {
		got, f := parse.Expr(fill(s, api.MaxQuery))
		if f != (api.Fault{}) || !ast.Same(got, sum("a")) {
			t.Error(got, f)
		}
		q, f := parse.Query(fill("every 3: "+s, api.MaxQuery))
		if f != (api.Fault{}) || !ast.Same(q.Expr, sum("a")) {
			t.Error(q, f)
		}
	}
	if got, f := parse.Match(fill(`{a="x"}`, api.MaxQuery)); f != (api.Fault{}) || len(got) != 1 {
		t.Error(got, f)
	}
	for _, n := range []int{api.MaxQuery + 1, 1 << 20} {
		for _, s := range []string{"every 3: sum(a[1])", "sum(a[1])", "{}", "!", ")", "", strings.Repeat("(", 100)} {
			wantQueryFault(t, fill(s, n), api.ErrLong, 0)
			wantMatchFault(t, fill(s, n), api.ErrLong, 0)
			wantExprFault(t, fill(s, n), api.ErrLong, 0)
		}
	}
	wantExprFault(t, strings.Repeat("sum(a[1])+", 1600), api.ErrSyntax, 16000)
	wantExprFault(t, strings.Repeat("sum(a[1])+", 1600)+"1", api.ErrLong, 0)
	wantExprFault(t, "sum(a[1])"+strings.Repeat("*1", 8000), api.ErrLong, 0)
	wantExprFault(t, "total by ("+strings.Repeat("a,", 8000)+"a) (sum(a[0]))", api.ErrArg, 0)
}

// P7.1: brackets that are open, at their limit, in each place where one opens.
func TestOpen(t *testing.T) {
	open := func(n int) string { return strings.Repeat("(", n) }
	shut := func(n int) string { return strings.Repeat(")", n) }
	a := sum("a")
	wantExpr(t, open(63)+"sum(a[1])"+shut(63), a)
	wantExprFault(t, open(64)+"sum(a[1])"+shut(64), api.ErrLong, 67)
	wantExprFault(t, open(65)+"sum(a[1])"+shut(65), api.ErrLong, 64)
	wantExprFault(t, open(16000), api.ErrLong, 64)
	wantExprFault(t, open(64), api.ErrSyntax, 64)
	// The brackets of a group: its names, and its kid.
	wantExpr(t, open(62)+"total by (x) (sum(a[1]))"+shut(62), group(api.GrTotal, a, "x"))
	wantExprFault(t, open(63)+"total by (x) (sum(a[1]))"+shut(63), api.ErrLong, 63+17)
	wantExprFault(t, open(64)+"total by (x) (sum(a[1]))"+shut(64), api.ErrLong, 64+9)
	// The brackets of on close before others open.
	wantExpr(t, open(63)+"sum(a[1]) + on (x) sum(a[1])"+shut(63), joined(api.OpAdd, a, a, "x"))
	wantExpr(t, open(63)+"sum(a[1]) * on () sum(a[1])"+shut(63), joined(api.OpMul, a, a))
	wantExpr(t, open(62)+"sum(a[1]) * on () (sum(a[1]))"+shut(62), joined(api.OpMul, a, a))
	wantExprFault(t, open(63)+"sum(a[1]) * on () (sum(a[1]))"+shut(63), api.ErrLong, 63+22)
	wantExprFault(t, "sum(a[1]) - "+open(64)+"sum(a[1])", api.ErrLong, 12+67)
	wantExpr(t, "sum(a[1]) - "+open(63)+"sum(a[1])"+shut(63)+" > 1", filter(api.OpMore, joined(api.OpSub, a, a), 1))
	// Brackets that are closed again do not count.
	wantExpr(t, open(60)+"sum(a[1])"+shut(60)+" + "+open(60)+"sum(a[1])"+shut(60), joined(api.OpAdd, a, a))
	many := "sum(a[1])"
	for range 6 {
		many = "(" + many + " + " + many + ")"
	}
	if e, f := parse.Expr(many); f != (api.Fault{}) || ast.Size(e) != 127 {
		t.Error(f)
	}
}

// P7.1: what does not fit comes before a ( too many, at the same token or
// before it, and not after it.
func TestSyntaxAndOpen(t *testing.T) {
	open := strings.Repeat("(", 64)
	for s, at := range map[string]int{
		open + ")": 64, open + "5": 64, open + "every": 64, open + "total (": 70, open + "total total": 70, open + "+(": 64,
		open + "on (": 64, open + "a(": 64, open + "sum sum(": 68, "(" + open[1:] + "[": 64, ")" + open + open: 0, "()" + open + open: 1,
		open[2:] + "sum(a(((((": 62 + 5, open[1:] + "total by () ()": 63 + 13,
	} {
		wantExprFault(t, s, api.ErrSyntax, at)
	}
	for s, at := range map[string]int{
		open + "(": 64, open + "()": 64, open + "(5": 64, open + "sum()": 67, open + "sum(sum(": 67, open + "total by ()()": 73,
		open[1:] + "total by () (total by ()": 63 + 22,
	} {
		wantExprFault(t, s, api.ErrLong, at)
	}
	wantQueryFault(t, "every 0: "+open+"(", api.ErrLong, 9+64)
	wantQueryFault(t, "every 0: "+open, api.ErrSyntax, 9+64)
	wantMatchFault(t, open+"(", api.ErrSyntax, 0)
}

// P7.1: the errors of ast.Check and ast.CheckExpr come last, at 0.
func TestSizes(t *testing.T) {
	for n := 1; n < 40; n++ {
		for _, more := range []string{" + 1", " - sum(a[1])", " * 2", " * sum(a[1])"} {
			s := "sum(a[1])" + strings.Repeat(more, n-1)
			if n > api.MaxNest {
				wantExprFault(t, s, api.ErrLong, 0)
				wantExprFault(t, s+" ]", api.ErrSyntax, len(s)+1)
				continue
			}
			if e, f := parse.Expr(s); f != (api.Fault{}) || ast.Deep(e) != n {
				t.Errorf("%s: %v", s, f)
			}
		}
	}
	// A text of n expressions: 64 windows and 63 joins are 127, the rest are
	// numbers that are added to windows.
	for n := 127; n < 240; n++ {
		s := balanced(n)
		e, f := parse.Expr(s)
		if n <= api.MaxSize && (f != (api.Fault{}) || ast.Size(e) != n) {
			t.Errorf("%d expressions: %v", n, f)
		}
		if n > api.MaxSize {
			wantExprFault(t, s, api.ErrLong, 0)
			wantExprFault(t, strings.Replace(s, "[1]", "[0]", 1), api.ErrLong, 0)
		}
	}
	wantExprFault(t, "sum(a[1]) + sum(a[0])", api.ErrArg, 0)
	wantQueryFault(t, "every 0: sum(a[1])", api.ErrArg, 0)
	wantQueryFault(t, "every 0: sum(a[1]) )", api.ErrSyntax, 19)
	wantExprFault(t, "sum(a[0]) )", api.ErrSyntax, 10)
	wantMatchFault(t, "{"+strings.Repeat(`a="x",`, 9)+"}", api.ErrSyntax, 55)
}

// balanced returns a text of n expressions, from 127 on.
func balanced(n int) string {
	left := n - 127
	var text func(levels int) string
	text = func(levels int) string {
		if levels > 0 {
			return "(" + text(levels-1) + " + " + text(levels-1) + ")"
		}
		s := "sum(a[1])"
		for k := 0; k < 2 && left > 0; k++ {
			s += " * 2"
			left--
		}
		return s
	}
	return text(6)
}
