package plan_test

import (
	"slices"
	"strings"
	"testing"

	"waterwheel/api"
	"waterwheel/ast"
	"waterwheel/parse"
	"waterwheel/plan"
	"waterwheel/show"
)

// P17.1, P17.2: the chapter's examples.
func TestExamples(t *testing.T) {
	l := queries(t, "every 5: sum(cpu[9]) + sum(cpu[9]) * 2", "every 5: sum(cpu[9])")
	p, roots, e := plan.Of(l)
	want := []api.Node{node(window("cpu", 9)), node(scale(2), 1), node(joined(api.OpAdd, nil), 1, 2)}
	if e != api.OK || !sameNodes(p, want) || !slices.Equal(roots, []int{3, 1}) {
		t.Errorf("%v, %v, error %d", p, roots, e)
	}
	if u := plan.Used(p, []int{1}); !slices.Equal(u, []int{1}) {
		t.Errorf("Used is %v", u)
	}
	if out := plan.Out(p, 1); !slices.Equal(out, []int{2, 3}) {
		t.Errorf("Out is %v", out)
	}
}

// P17.1: the nodes of a query are in the order of its kids, from the left, each
// before what it feeds.
func TestOrder(t *testing.T) {
	p, roots, e := plan.Of(queries(t,
		`every 6: total by (a, b) (max(b{a!="x"}[4]) > -3) - on (c) (last(a[2]) * (sum(c[1]) + 7))`,
		`every 6: last(a[2]) * (sum(c[1]) + 7) == 1`,
		`every 7: last(a[2])`,
	))
	high := api.Expr{Kind: api.ExWindow, Func: api.FnMax, Metric: "b", Match: []api.Matcher{{Kind: api.MatchNot, Name: "a", Text: "x"}}, Span: 4}
	last := api.Expr{Kind: api.ExWindow, Func: api.FnLast, Metric: "a", Span: 2}
	want := []api.Node{
		{Every: 6, Expr: high},
		{Every: 6, Expr: api.Expr{Kind: api.ExFilter, Op: api.OpMore, Num: -3}, In: []int{1}},
		{Every: 6, Expr: api.Expr{Kind: api.ExGroup, Func: api.GrTotal, Names: []string{"a", "b"}}, In: []int{2}},
		{Every: 6, Expr: last},
		{Every: 6, Expr: api.Expr{Kind: api.ExWindow, Func: api.FnSum, Metric: "c", Span: 1}},
		{Every: 6, Expr: api.Expr{Kind: api.ExScale, Op: api.OpAdd, Num: 7}, In: []int{5}},
		{Every: 6, Expr: api.Expr{Kind: api.ExJoin, Op: api.OpMul}, In: []int{4, 6}},
		{Every: 6, Expr: api.Expr{Kind: api.ExJoin, Op: api.OpSub, Names: []string{"c"}}, In: []int{3, 7}},
		{Every: 6, Expr: api.Expr{Kind: api.ExFilter, Op: api.OpEq, Num: 1}, In: []int{7}},
		{Every: 7, Expr: last},
	}
	if e != api.OK || !sameNodes(p, want) || !slices.Equal(roots, []int{8, 9, 10}) {
		t.Errorf("%v, %v, error %d", p, roots, e)
	}
	if len(p) > 0 && (p[0].In != nil || p[0].Expr.Kids != nil || p[7].Expr.Kids != nil) {
		t.Errorf("lists that there are not: %v", p)
	}
}

// P17.1: no queries have a plan without nodes.
func TestOfNothing(t *testing.T) {
	for _, l := range [][]api.Query{nil, {}} {
		if p, roots, e := plan.Of(l); len(p) != 0 || len(roots) != 0 || e != api.OK {
			t.Errorf("%v, %v, error %d", p, roots, e)
		}
	}
	for _, p := range [][]api.Node{nil, {}} {
		checkAll(t, p)
	}
}

// P17.1: nodes that differ in anything are different, and those that differ in
// nothing are the same.
func TestNearQueries(t *testing.T) {
	first := []api.Expr{window("cpu", 1), window("cpu", 2)}
	l := []api.Query{{Every: 5, Expr: first[0]}, {Every: 5, Expr: first[1]}}
	for _, n := range near() {
		q := api.Query{Every: 5, Expr: n.Expr}
		for _, in := range n.In {
			q.Expr.Kids = append(q.Expr.Kids, first[in-1])
		}
		l = append(l, q)
	}
	for _, q := range slices.Clone(l) {
		l = append(l, api.Query{Every: 6, Expr: q.Expr})
	}
	if p := checkOf(t, l); len(p) != len(l) {
		t.Errorf("%d nodes, not %d", len(p), len(l))
	}
	if p := checkOf(t, slices.Concat(l, l)); len(p) != len(l) {
		t.Errorf("%d nodes twice, not %d", len(p), len(l))
	}
	slices.Reverse(l)
	checkOf(t, l)
}

// P17.1: nodes of any metric and span are different from those that are fed by
// any node.
func TestMetrics(t *testing.T) {
	var l []api.Query
	for _, metric := range []string{"node", "n", "in", "x", "a", "last", "sum"} {
		for span := range int64(9) {
			for fn := api.FnSum; fn <= api.FnIncrease; fn++ {
				x := window(metric, span+1)
				x.Func = fn
				l = append(l, api.Query{Every: 5, Expr: group(nil, x)})
			}
		}
	}
	if p := checkOf(t, l); len(p) != 2*len(l) {
		t.Errorf("%d nodes, not %d", len(p), 2*len(l))
	}
	slices.Reverse(l)
	checkOf(t, l)
}

// P17.1: lists that are nil and empty ones are the same.
func TestEmptyLists(t *testing.T) {
	bare := []api.Expr{window("a", 1), scale(2, window("a", 1)), filter(2, window("a", 1)), group(nil, window("a", 1)), joined(1, nil, window("a", 1), window("a", 1))}
	var l []api.Query
	for _, x := range bare {
		for range 2 {
			l = append(l, api.Query{Every: 5, Expr: x})
			x.Names = []string{}
			if x.Kind != api.ExWindow {
				x.Match = []api.Matcher{}
			}
		}
		x.Kids = append([]api.Expr{}, x.Kids...)
		l = append(l, api.Query{Every: 5, Expr: x})
	}
	if p := checkOf(t, l); len(p) != len(bare) {
		t.Errorf("%d nodes, not %d", len(p), len(bare))
	}
	p, q := chain(9), chain(9)
	for i := range q {
		q[i].Expr.Match, q[i].Expr.Kids = []api.Matcher{}, []api.Expr{}
		q[i].In = append([]int{}, q[i].In...)
	}
	if !plan.Same(p, q) || !plan.Same(q, p) || plan.Check(q) != api.OK {
		t.Error("empty lists are different from none")
	}
	if plan.Check(append(p, q[4])) != api.ErrArg {
		t.Error("a node with empty lists is another one")
	}
	checkAll(t, q)
}

// P17.1: the limit of nodes: it is what there would be in the end that counts.
func TestMaxNodes(t *testing.T) {
	for _, n := range []int{998, 999, 1000} {
		l := windowQueries(n)
		for _, more := range [][]api.Query{
			nil, l, queries(t, "every 5: sum(a[1])"), queries(t, "every 6: sum(a[1])"), queries(t, "every 5: sum(a[1]) * 2"),
			queries(t, "every 6: sum(a[1]) * 2"), queries(t, "every 5: sum(a[1]) + sum(a[2]) * 3"), queries(t, "every 5: sum(a[1]) + sum(a[1])", "every 5: sum(b[1])"),
			queries(t, "every 5: sum(b[1])", "every 5: sum(b[2])", "every 5: sum(b[3])"), queries(t, "every 5: sum(b[1]) + sum(b[2])"),
			queries(t, "every 5: sum(b[1])", "every 5: sum(a[1])"),
		} {
			checkOf(t, slices.Concat(l, more))
			checkOf(t, slices.Concat(more, l))
		}
	}
	checkOf(t, windowQueries(1001))
	checkOf(t, windowQueries(1003))
}

// wide returns a valid expression of 199 expressions, 8 deep, with few different
// ones, or many.
func wide(different bool) api.Expr {
	var l []api.Expr
	for i := range 100 {
		x := window("a", 1)
		if different {
			x.Metric = named(i)
		}
		l = append(l, x)
	}
	for len(l) > 1 {
		var half []api.Expr
		for pair := range slices.Chunk(l, 2) {
			if len(pair) == 2 {
				pair = []api.Expr{joined(api.OpAdd, nil, pair...)}
			}
			half = append(half, pair[0])
		}
		l = half
	}
	return l[0]
}

// P17.1: great queries: of 200 expressions, 16 deep, and with long texts.
func TestGreatQueries(t *testing.T) {
	few, many := wide(false), wide(true)
	if p := checkOf(t, []api.Query{{Every: 5, Expr: scale(2, few)}}); len(p) > 30 {
		t.Errorf("%d nodes", len(p))
	}
	if p := checkOf(t, []api.Query{{Every: 5, Expr: scale(2, many)}}); len(p) != 200 {
		t.Errorf("%d nodes", len(p))
	}
	var l []api.Query
	for every := range int64(5) {
		l = append(l, api.Query{Every: every + 1, Expr: scale(2, many)})
	}
	if p := checkOf(t, l); len(p) != 1000 {
		t.Errorf("%d nodes", len(p))
	}
	checkOf(t, append(l, api.Query{Every: 6, Expr: window("a", 1)}))
	checkOf(t, append(l, api.Query{Every: 5, Expr: window("m_7", 1)}))
	deep := window("a", 1)
	for range 15 {
		deep = scale(2, deep)
	}
	if p := checkOf(t, []api.Query{{Every: 5, Expr: deep}}); len(p) != 16 {
		t.Errorf("%d nodes", len(p))
	}
}

// P17.1: windows with the longest matchers there may be, which differ in their
// last byte alone.
func TestLongTexts(t *testing.T) {
	long := func(last byte) api.Expr {
		var l []api.Matcher
		for i := range 8 {
			name := strings.Repeat("a", 23) + string(rune('a'+i))
			l = append(l, api.Matcher{Kind: api.MatchNot, Name: name, Text: strings.Repeat("\xff", 63) + string(rune(last))})
		}
		return window(strings.Repeat("m", 24), 1<<30, l...)
	}
	var l []api.Query
	for last := range byte(100) {
		l = append(l, api.Query{Every: 1 << 30, Expr: joined(api.OpMul, nil, long(last), long(last+1))})
	}
	if p := checkOf(t, l); len(p) != 201 {
		t.Errorf("%d nodes", len(p))
	}
	whole := long(0)
	for last := range byte(15) {
		whole = joined(api.OpMul, nil, whole, long(last+1))
	}
	if s, e := show.Expr(whole); e != api.OK || len(s) <= api.MaxQuery {
		t.Fatalf("%d bytes, error %d", len(s), e)
	}
	if p := checkOf(t, []api.Query{{Every: 5, Expr: whole}}); len(p) != 31 {
		t.Errorf("%d nodes", len(p))
	}
}

// invalid returns queries that are not valid, with the errors of ast.Check.
func invalid() map[api.Errno][]api.Query {
	deep := window("a", 1)
	for range 16 {
		deep = scale(2, deep)
	}
	endless := deep
	for range 1 << 12 {
		endless = scale(2, endless)
	}
	return map[api.Errno][]api.Query{
		api.ErrLong: {
			{Every: 5, Expr: deep}, {Every: 5, Expr: endless}, {Every: 5, Expr: joined(1, nil, window("a", 1), wide(true))},
			{Every: 5, Expr: group([]string{"b", "a"}, deep)},
		},
		api.ErrArg: {
			{}, {Every: 0, Expr: window("a", 1)}, {Every: -5, Expr: window("a", 1)}, {Every: 1<<30 + 1, Expr: window("a", 1)}, {Every: 0, Expr: deep},
			{Every: 5}, {Every: 5, Expr: window("a", 0)}, {Every: 5, Expr: window("A", 1)}, {Every: 5, Expr: group([]string{"b", "a"}, window("a", 1))},
			{Every: 5, Expr: scale(2)}, {Every: 5, Expr: scale(2, window("a", 1), window("a", 1))}, {Every: 5, Expr: scale(2, window("a", 1<<30+1))},
			{Every: 5, Expr: api.Expr{Kind: 6}}, {Every: 5, Expr: api.Expr{Kind: -1, Kids: []api.Expr{window("a", 1)}}},
		},
	}
}

// P17.1: Of returns the first error of ast.Check, also before ErrLong for too
// many nodes, and then nothing else.
func TestOfErrors(t *testing.T) {
	good := queries(t, "every 5: sum(a[1]) * 2", "every 6: sum(a[1])")
	want := func(l []api.Query, e api.Errno) {
		t.Helper()
		if p, roots, got := plan.Of(l); p != nil || roots != nil || got != e {
			t.Errorf("Of %.500v is %v, %v, error %d, not %d", l, p, roots, got, e)
		}
	}
	bad := invalid()
	for e, l := range bad {
		other := bad[api.ErrLong+api.ErrArg-e]
		for i, q := range l {
			if got := ast.Check(q); got != e {
				t.Fatalf("Check of %.500v is %d", q, got)
			}
			want([]api.Query{q}, e)
			want(append(slices.Clone(good), q), e)
			want(append([]api.Query{q}, good...), e)
			want([]api.Query{good[0], q, good[1], other[i%len(other)]}, e)
			want(append(windowQueries(1001), q), e)
			want(append([]api.Query{q}, windowQueries(1001)...), e)
			want(append(windowQueries(1000), q), e)
		}
	}
	want(windowQueries(1001), api.ErrLong)
}

// P17.1: Same reports whether all of two plans is equal, whether they are valid
// or not.
func TestSame(t *testing.T) {
	var l [][]api.Node
	base := func() []api.Node {
		p := chain(4)
		p = append(p, node(joined(api.OpSub, []string{"a", "b"}), 2, 4))
		p[0].Expr.Match = []api.Matcher{{Kind: api.MatchIs, Name: "a", Text: "x"}, {Kind: api.MatchNot, Name: "b"}}
		return p
	}
	for _, change := range []func(p []api.Node){
		func(p []api.Node) {},
		func(p []api.Node) { p[0].Every = 6 },
		func(p []api.Node) { p[4].Every = 6 },
		func(p []api.Node) { p[0].Expr.Kind = 2 },
		func(p []api.Node) { p[0].Expr.Func = 2 },
		func(p []api.Node) { p[4].Expr.Op = api.OpMul },
		func(p []api.Node) { p[4].Expr.Op = 77 },
		func(p []api.Node) { p[1].Expr.Num++ },
		func(p []api.Node) { p[0].Expr.Metric = "b" },
		func(p []api.Node) { p[0].Expr.Span = 8 },
		func(p []api.Node) { p[0].Expr.Match[0].Kind = 2 },
		func(p []api.Node) { p[0].Expr.Match[1].Name = "c" },
		func(p []api.Node) { p[0].Expr.Match[1].Text = "c" },
		func(p []api.Node) { p[0].Expr.Match = p[0].Expr.Match[:1] },
		func(p []api.Node) { p[4].Expr.Names[1] = "c" },
		func(p []api.Node) { p[4].Expr.Names = p[4].Expr.Names[:1] },
		func(p []api.Node) { p[3].Expr.Kids = []api.Expr{window("a", 1)} },
		func(p []api.Node) { p[3].Expr.Kids = []api.Expr{window("a", 2)} },
		func(p []api.Node) { p[4].In[0] = 3 },
		func(p []api.Node) { p[4].In[0], p[4].In[1] = 4, 2 },
		func(p []api.Node) { p[4].In = p[4].In[:1] },
		func(p []api.Node) { p[0].In = []int{0} },
		func(p []api.Node) { p[0], p[1] = p[1], p[0] },
	} {
		p := base()
		change(p)
		l = append(l, p)
	}
	l = append(l, base()[:4], append(base(), node(window("a", 1))), nil, windows(1), windows(1000), windows(1001), windows(1002))
	for i, p := range l {
		for k, q := range l {
			if got := plan.Same(p, q); got != (i == k) {
				t.Errorf("Same of %d and %d is %v", i, k, got)
			}
		}
		if !plan.Same(p, slices.Clone(p)) {
			t.Errorf("%d is not the same as itself", i)
		}
	}
	if !plan.Same(l[0], base()) || !plan.Same(nil, []api.Node{}) {
		t.Error("equal plans are not the same")
	}
}

// P17.1: texts that are read have the plan of their trees.
func TestTexts(t *testing.T) {
	for _, c := range []struct {
		text  string
		nodes int
	}{
		{"every 1: sum(a[1])", 1},
		{"every 1: sum(a[1]) + sum(a[1])", 2},
		{"every 1: (sum(a[1]) + sum(a[1])) * (sum(a[1]) + sum(a[1]))", 3},
		{"every 1: sum(a[1]) + sum(b[1]) - (sum(b[1]) + sum(a[1]))", 5},
		{"every 1: sum(a[1]) * 2 + sum(a[1]) * 2", 3},
		{"every 1: sum(a[1]) * 2 + sum(a[1]) * 3", 4},
		{"every 1: sum(a[1]) + on () sum(a[1])", 2},
		{"every 1: sum(a[1]) + on (a) sum(a[1])", 2},
		{`every 1: sum(a{a="x"}[1]) + sum(a{a!="x"}[1])`, 3},
		{"every 1: total by (a, b) (sum(a[1])) + total by (b, a) (sum(a[1]))", 3},
		{"every 1: total by (a, b) (sum(a[1])) + many by (b, a) (sum(a[1]))", 4},
		{"every 1: (sum(a[1]) > 3) * 2 > 3", 4},
	} {
		q, f := parse.Query(c.text)
		if f != (api.Fault{}) {
			t.Fatal(c.text, f)
		}
		if p := checkOf(t, []api.Query{q, q}); len(p) != c.nodes {
			t.Errorf("%s: %d nodes", c.text, len(p))
		}
	}
}
