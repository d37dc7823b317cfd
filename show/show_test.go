package show_test

import (
	"math"
	"strconv"
	"strings"
	"testing"

	"waterwheel/api"
	"waterwheel/ast"
	"waterwheel/parse"
	"waterwheel/show"
)

// sum, group, joined, scale and filter make expressions.
func sum(metric string, match ...api.Matcher) api.Expr {
	return api.Expr{Kind: api.ExWindow, Func: api.FnSum, Metric: metric, Match: match, Span: 1}
}

func group(fn int, kid api.Expr, names ...string) api.Expr {
	return api.Expr{Kind: api.ExGroup, Func: fn, Names: names, Kids: []api.Expr{kid}}
}

func joined(op int, a, b api.Expr, names ...string) api.Expr {
	return api.Expr{Kind: api.ExJoin, Op: op, Names: names, Kids: []api.Expr{a, b}}
}

func scale(op int, kid api.Expr, n int64) api.Expr {
	return api.Expr{Kind: api.ExScale, Op: op, Num: n, Kids: []api.Expr{kid}}
}

func filter(op int, kid api.Expr, n int64) api.Expr {
	return api.Expr{Kind: api.ExFilter, Op: op, Num: n, Kids: []api.Expr{kid}}
}

// wantText checks that want is the text of e, alone and in a query, and that it
// is read as e again if it is not too long.
func wantText(t *testing.T, e api.Expr, want string) {
	t.Helper()
	before := ast.Copy(e)
	if got, err := show.Expr(e); err != api.OK || got != want {
		t.Errorf("Expr of %v is %q, %d, not %q", e, got, err, want)
	}
	q := api.Query{Every: 7, Expr: e}
	if got, err := show.Query(q); err != api.OK || got != "every 7: "+want {
		t.Errorf("Query of %v is %q, %d, not %q", e, got, err, want)
	}
	if !ast.Same(e, before) {
		t.Errorf("%v became %v", before, e)
	}
	if len("every 7: "+want) > api.MaxQuery {
		return
	}
	if again, f := parse.Expr(want); f != (api.Fault{}) || !ast.Same(again, e) {
		t.Errorf("%q is read as %v, %v", want, again, f)
	}
	if again, f := parse.Query("every 7: " + want); f != (api.Fault{}) || again.Every != 7 || !ast.Same(again.Expr, e) {
		t.Errorf("%q is read as %v, %v", want, again, f)
	}
}

// wantError checks that an expression has no text, alone and in a query.
func wantError(t *testing.T, e api.Expr, want api.Errno) {
	t.Helper()
	if got, err := show.Expr(e); got != "" || err != want {
		t.Errorf("Expr of %v is %q, %d, not error %d", e, got, err, want)
	}
	wantQueryError(t, api.Query{Every: 1, Expr: e}, want)
}

// wantQueryError checks that a query has no text.
func wantQueryError(t *testing.T, q api.Query, want api.Errno) {
	t.Helper()
	if got, err := show.Query(q); got != "" || err != want {
		t.Errorf("Query of %v is %q, %d, not error %d", q, got, err, want)
	}
}

// P8.1: the chapter's examples.
func TestExamples(t *testing.T) {
	cpu := api.Expr{Kind: api.ExWindow, Func: api.FnSum, Metric: "cpu", Span: 10}
	q := api.Query{Every: 5, Expr: filter(api.OpMore, group(api.GrTotal, cpu, "a"), 3)}
	if got, err := show.Query(q); err != api.OK || got != "every 5: total by (a) (sum(cpu[10])) > 3" {
		t.Error(got, err)
	}
	a, b, c := sum("a"), sum("b"), sum("c")
	wantText(t, scale(api.OpMul, joined(api.OpAdd, a, b), 2), "(sum(a[1]) + sum(b[1])) * 2")
	wantText(t, joined(api.OpAdd, a, joined(api.OpAdd, b, c)), "sum(a[1]) + (sum(b[1]) + sum(c[1]))")
	wantText(t, scale(api.OpMul, a, -2), "sum(a[1]) * -2")
}

// P8.1: windows of each function, with metrics and spans at their limits.
func TestWindows(t *testing.T) {
	for fn, word := range map[int]string{1: "sum", 2: "count", 3: "min", 4: "max", 5: "last", 6: "increase"} {
		for _, span := range []int64{1, 9, 10, 1<<30 - 1, 1 << 30} {
			for _, metric := range []string{"a", "_", "sum", "every", "on", "m_1", strings.Repeat("z", 24)} {
				e := api.Expr{Kind: api.ExWindow, Func: fn, Metric: metric, Span: span}
				wantText(t, e, word+"("+metric+"["+strconv.FormatInt(span, 10)+"])")
			}
		}
		for _, span := range []int64{0, -1, math.MinInt64, 1<<30 + 1, math.MaxInt64} {
			wantError(t, api.Expr{Kind: api.ExWindow, Func: fn, Metric: "a", Span: span}, api.ErrArg)
		}
		for _, metric := range []string{"", "9", "A", "a b", "a-b", "é", strings.Repeat("z", 25)} {
			wantError(t, api.Expr{Kind: api.ExWindow, Func: fn, Metric: metric, Span: 1}, api.ErrArg)
		}
	}
}

// P8.1: matchers, in the order in which they are given, and at their limits.
func TestMatchers(t *testing.T) {
	is := func(name, text string) api.Matcher { return api.Matcher{Kind: api.MatchIs, Name: name, Text: text} }
	not := func(name, text string) api.Matcher { return api.Matcher{Kind: api.MatchNot, Name: name, Text: text} }
	wantText(t, sum("m", []api.Matcher{}...), `sum(m[1])`)
	wantText(t, sum("m", is("a", "x")), `sum(m{a="x"}[1])`)
	wantText(t, sum("m", not("a", "x")), `sum(m{a!="x"}[1])`)
	wantText(t, sum("m", is("b", ""), not("a", "y"), is("b", "")), `sum(m{b="", a!="y", b=""}[1])`)
	wantText(t, sum("m", is("on", `"`), not("by", `\`)), `sum(m{on="\"", by!="\\"}[1])`)
	wantText(t, sum("m", is("a", "\x00\n\x1f ~\x7f\x80\xff")), `sum(m{a="\x00\x0a\x1f ~\x7f\x80\xff"}[1])`)
	wantText(t, sum("m", is("a", "é# } , (")), `sum(m{a="\xc3\xa9# } , ("}[1])`)
	name, long := strings.Repeat("n", 24), strings.Repeat("\x01", 64)
	wantText(t, sum("m", is(name, long)), `sum(m{`+name+`="`+strings.Repeat(`\x01`, 64)+`"}[1])`)
	for c := range 256 {
		s := string([]byte{byte(c)})
		inQuotes := s
		switch {
		case s == `"` || s == `\`:
			inQuotes = `\` + s
		case c < 32 || c > 126:
			inQuotes = `\x` + strconv.FormatInt(int64(c)/16, 16) + strconv.FormatInt(int64(c)%16, 16)
		}
		wantText(t, sum("m", not("a", s)), `sum(m{a!="`+inQuotes+`"}[1])`)
	}
	for n := 1; n < 20; n++ {
		var l []api.Matcher
		for range n {
			l = append(l, is("a", "x"))
		}
		if n > api.MaxMatch {
			wantError(t, sum("m", l...), api.ErrArg)
			continue
		}
		wantText(t, sum("m", l...), `sum(m{a="x"`+strings.Repeat(`, a="x"`, n-1)+`}[1])`)
	}
	for _, m := range []api.Matcher{{Kind: 0, Name: "a"}, {Kind: 3, Name: "a"}, is("", "x"), is("A", "x"), is(name+"n", "x"), is("a", long+"x")} {
		wantError(t, sum("m", m), api.ErrArg)
	}
}

// P8.1: groups of each function, whose kid is always in their brackets alone.
func TestGroups(t *testing.T) {
	a := sum("a")
	for fn, word := range map[int]string{1: "total", 2: "many", 3: "least", 4: "most"} {
		wantText(t, group(fn, a), word+" by () (sum(a[1]))")
		wantText(t, group(fn, a, []string{}...), word+" by () (sum(a[1]))")
		wantText(t, group(fn, group(fn, a, "x"), "by"), word+" by (by) ("+word+" by (x) (sum(a[1])))")
		wantText(t, group(fn, filter(api.OpEq, a, 1), "x", "y"), word+" by (x, y) (sum(a[1]) == 1)")
		wantText(t, group(fn, joined(api.OpAdd, a, a)), word+" by () (sum(a[1]) + sum(a[1]))")
		wantText(t, group(fn, scale(api.OpMul, a, 2)), word+" by () (sum(a[1]) * 2)")
	}
}

// P8.1: names of groups and of joins, at their limits.
func TestNames(t *testing.T) {
	long := strings.Repeat("z", 24)
	a, b := sum("a"), sum("b")
	for s, names := range map[string][]string{
		"":                       nil,
		"x":                      {"x"},
		"by, on":                 {"by", "on"},
		"_, a, a_, aa, " + long:  {"_", "a", "a_", "aa", long},
		"a, b, c, d, e, f, g, h": {"a", "b", "c", "d", "e", "f", "g", "h"},
	} {
		wantText(t, group(api.GrMost, a, names...), "most by ("+s+") (sum(a[1]))")
		on := ""
		if len(names) > 0 {
			on = "on (" + s + ") "
		}
		for op, sign := range map[int]string{1: "+", 2: "-", 3: "*"} {
			wantText(t, joined(op, a, b, names...), "sum(a[1]) "+sign+" "+on+"sum(b[1])")
			wantText(t, joined(op, a, filter(api.OpEq, b, 1), names...), "sum(a[1]) "+sign+" "+on+"(sum(b[1]) == 1)")
		}
	}
	for _, names := range [][]string{{"b", "a"}, {"a", "a"}, {""}, {"A"}, {long + "z"}, strings.Fields("a b c d e f g h i")} {
		wantError(t, group(api.GrMost, a, names...), api.ErrArg)
		wantError(t, joined(api.OpAdd, a, b, names...), api.ErrArg)
	}
}

// P8.1: numbers at their limits, behind each sign.
func TestNumbers(t *testing.T) {
	a := sum("a")
	for n, s := range map[int64]string{
		0: "0", 1: "1", -1: "-1", 10: "10", -42: "-42", 1 << 32: "4294967296",
		math.MaxInt64: "9223372036854775807", math.MinInt64: "-9223372036854775808",
	} {
		for op, sign := range map[int]string{1: "+", 2: "-", 3: "*"} {
			wantText(t, scale(op, a, n), "sum(a[1]) "+sign+" "+s)
		}
		for op, sign := range map[int]string{4: "<", 5: "<=", 6: ">", 7: ">=", 8: "==", 9: "!="} {
			wantText(t, filter(op, a, n), "sum(a[1]) "+sign+" "+s)
		}
	}
}

// P8.1: Sign of each operator and comparison, and of other numbers.
func TestSign(t *testing.T) {
	want := map[int]string{1: "+", 2: "-", 3: "*", 4: "<", 5: "<=", 6: ">", 7: ">=", 8: "==", 9: "!="}
	for op := -300; op < 300; op++ {
		if got := show.Sign(op); got != want[op] {
			t.Errorf("Sign of %d is %q", op, got)
		}
	}
	for _, op := range []int{math.MinInt, math.MinInt + 1, 1 << 32, 1<<32 + 1, math.MaxInt} {
		if got := show.Sign(op); got != "" {
			t.Errorf("Sign of %d is %q", op, got)
		}
	}
}

// P8.1: Word of each function, which parse finds again, and of other numbers.
func TestWord(t *testing.T) {
	want := map[[2]int]string{
		{1, 1}: "sum", {1, 2}: "count", {1, 3}: "min", {1, 4}: "max", {1, 5}: "last", {1, 6}: "increase",
		{2, 1}: "total", {2, 2}: "many", {2, 3}: "least", {2, 4}: "most",
	}
	all := []int{math.MinInt, math.MinInt + 1, 1<<32 + 1, math.MaxInt}
	for n := -20; n < 20; n++ {
		all = append(all, n)
	}
	for _, kind := range all {
		for _, fn := range all {
			got := show.Word(kind, fn)
			if got != want[[2]int{kind, fn}] {
				t.Errorf("Word of %d, %d is %q", kind, fn, got)
			}
			if k, f, is := parse.Func(got); is != (got != "") || is && (k != kind || f != fn) {
				t.Errorf("Word of %d, %d is %q, of %d, %d", kind, fn, got, k, f)
			}
		}
	}
}

// P8.1: Every, at its limits.
func TestEvery(t *testing.T) {
	for _, every := range []int64{1, 2, 10, 1<<30 - 1, 1 << 30} {
		q := api.Query{Every: every, Expr: sum("a")}
		if got, err := show.Query(q); err != api.OK || got != "every "+strconv.FormatInt(every, 10)+": sum(a[1])" {
			t.Errorf("Every %d: %q, %d", every, got, err)
		}
	}
	for _, every := range []int64{0, -1, math.MinInt64, 1<<30 + 1, math.MaxInt64} {
		wantQueryError(t, api.Query{Every: every, Expr: sum("a")}, api.ErrArg)
		// Every is looked at before the size of the expression.
		wantQueryError(t, api.Query{Every: every, Expr: nested(17)}, api.ErrArg)
	}
}

// nested returns an expression of deep levels.
func nested(deep int) api.Expr {
	e := sum("a")
	for range deep - 1 {
		e = filter(api.OpEq, e, 1)
	}
	return e
}

// P8.1: what is not valid has no text, but the error of ast.
func TestInvalid(t *testing.T) {
	a := sum("a")
	for _, e := range []api.Expr{
		{}, {Kind: -1}, {Kind: 6}, {Kind: math.MaxInt}, {Kind: math.MinInt},
		{Kind: api.ExWindow}, {Kind: api.ExGroup}, {Kind: api.ExJoin}, {Kind: api.ExScale}, {Kind: api.ExFilter},
		{Kind: api.ExWindow, Func: 0, Metric: "a", Span: 1}, {Kind: api.ExWindow, Func: 7, Metric: "a", Span: 1},
		{Kind: api.ExWindow, Func: 1, Metric: "a", Span: 1, Num: 1}, {Kind: api.ExWindow, Func: 1, Metric: "a", Span: 1, Kids: []api.Expr{a}},
		group(0, a), group(5, a), group(1, api.Expr{}), joined(0, a, a), joined(4, a, a), joined(1, a, api.Expr{}), joined(1, api.Expr{}, a),
		scale(0, a, 1), scale(4, a, 1), scale(9, a, 1), filter(3, a, 1), filter(10, a, 1), filter(math.MinInt, a, 1),
		{Kind: api.ExJoin, Op: api.OpAdd, Kids: []api.Expr{a}}, {Kind: api.ExJoin, Op: api.OpAdd, Kids: []api.Expr{a, a, a}},
		{Kind: api.ExScale, Op: api.OpAdd}, {Kind: api.ExFilter, Op: api.OpEq, Kids: []api.Expr{a, a}},
	} {
		wantError(t, e, api.ErrArg)
		wantError(t, joined(api.OpMul, group(api.GrMany, a), filter(api.OpEq, e, 3)), api.ErrArg)
	}
}

// P8.1: expressions at the limits of size and of depth.
func TestSizes(t *testing.T) {
	inner := "sum(a[1])"
	for deep := 2; deep <= api.MaxNest; deep++ {
		text := inner + " == 1"
		wantText(t, nested(deep), text)
		inner = "(" + text + ")"
	}
	wantError(t, nested(api.MaxNest+1), api.ErrLong)
	bad := filter(0, nested(api.MaxNest), 1)
	wantError(t, bad, api.ErrLong)
	groups, text := sum("a"), "sum(a[1])"
	for range api.MaxNest - 1 {
		groups, text = group(api.GrTotal, groups), "total by () ("+text+")"
	}
	wantText(t, groups, text)
	for n := 1; n <= 100; n++ {
		e := wide(n)
		if got, err := show.Expr(e); err != api.OK || strings.Count(got, "sum(") != n || ast.Size(e) != 2*n-1 {
			t.Errorf("%d windows: %q, %d", n, got, err)
		}
	}
	wantText(t, scale(api.OpAdd, wide(100), 1), must(t, wide(100))+" + 1")
	wantError(t, wide(101), api.ErrLong)
	kids := []api.Expr{{Kind: api.ExScale, Op: api.OpAdd}}
	kids[0].Kids = kids
	wantError(t, kids[0], api.ErrLong)
}

// wide returns the sum of n windows, nested as little as possible.
func wide(n int) api.Expr {
	if n == 1 {
		return sum("a")
	}
	return joined(api.OpAdd, wide(n-n/2), wide(n/2))
}

// must returns the text of e.
func must(t *testing.T, e api.Expr) string {
	t.Helper()
	s, err := show.Expr(e)
	if err != api.OK {
		t.Fatalf("Expr of %v is %d", e, err)
	}
	return s
}

// P8.1, P8.2: a text may have more than MaxQuery bytes; up to these it is read
// again.
func TestLong(t *testing.T) {
	e := wide(80)
	fill(&e, api.MaxQuery-len("every 7: ")-len(must(t, e)))
	q := api.Query{Every: 7, Expr: e}
	s, err := show.Query(q)
	again, f := parse.Query(s)
	if err != api.OK || len(s) != api.MaxQuery || f != (api.Fault{}) || again.Every != 7 || !ast.Same(again.Expr, e) {
		t.Error(err, len(s), f)
	}
	q.Every = 10
	s, err = show.Query(q)
	if err != api.OK || len(s) != api.MaxQuery+1 || !strings.HasPrefix(s, "every 10: ") {
		t.Error(err, len(s))
	}
	if _, f := parse.Query(s); f != (api.Fault{Err: api.ErrLong}) {
		t.Error(f)
	}
	// The longest windows: they have all that is allowed.
	e = wide(100)
	eachWindow(&e, func(x *api.Expr) {
		x.Func, x.Metric, x.Span = api.FnIncrease, strings.Repeat("m", 24), 1<<30
		for range api.MaxMatch {
			x.Match = append(x.Match, api.Matcher{Kind: api.MatchNot, Name: strings.Repeat("n", 24), Text: strings.Repeat("\xff", 64)})
		}
	})
	one := `, ` + strings.Repeat("n", 24) + `!="` + strings.Repeat(`\xff`, 64) + `"`
	window := `increase(` + strings.Repeat("m", 24) + `{` + strings.Repeat(one, 8)[2:] + `}[1073741824])`
	wantText(t, e, strings.ReplaceAll(must(t, wide(100)), "sum(a[1])", window))
}

// eachWindow calls change with each window in e.
func eachWindow(e *api.Expr, change func(*api.Expr)) {
	if e.Kind == api.ExWindow {
		change(e)
	}
	for i := range e.Kids {
		eachWindow(&e.Kids[i], change)
	}
}

// fill makes the text of e longer by a number of bytes: by long matchers of its
// first windows, and by the metrics of others.
func fill(e *api.Expr, more int) {
	const long = len(`{a=""}`) + 4*64
	eachWindow(e, func(x *api.Expr) {
		if more > long {
			x.Match = []api.Matcher{{Kind: api.MatchIs, Name: "a", Text: strings.Repeat("\xff", 64)}}
			more -= long
			return
		}
		n := min(23, more)
		x.Metric += strings.Repeat("b", n)
		more -= n
	})
}

// P8.1 with rule 3: the spare capacity of arguments is neither written to nor
// shown, and what is shown is the same each time.
func TestArguments(t *testing.T) {
	names := []string{"x", "y", "z"}
	match := []api.Matcher{{Kind: api.MatchIs, Name: "a", Text: "x"}, {Kind: api.MatchNot, Name: "b", Text: "y"}}
	kids := []api.Expr{sum("a", match[:1]...), sum("b"), sum("c")}
	e := group(api.GrTotal, joined(api.OpSub, kids[0], kids[1], names[:2]...), names[:1]...)
	e.Kids[0].Kids = kids[:2]
	for range 3 {
		wantText(t, e, `total by (x) (sum(a{a="x"}[1]) - on (x, y) sum(b[1]))`)
	}
	if strings.Join(names, " ") != "x y z" || match[1].Name != "b" || !ast.Same(kids[2], sum("c")) {
		t.Error(names, match, kids)
	}
}
