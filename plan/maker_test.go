package plan_test

import (
	"fmt"
	"math"
	"slices"
	"testing"

	"waterwheel/api"
	"waterwheel/parse"
)

// window, group, joined, scale and filter make valid expressions, with as many
// kids as they are given.
func window(metric string, span int64, match ...api.Matcher) api.Expr {
	return api.Expr{Kind: api.ExWindow, Func: api.FnSum, Metric: metric, Match: match, Span: span}
}

func group(names []string, kids ...api.Expr) api.Expr {
	return api.Expr{Kind: api.ExGroup, Func: api.GrTotal, Names: names, Kids: kids}
}

func joined(op int, names []string, kids ...api.Expr) api.Expr {
	return api.Expr{Kind: api.ExJoin, Op: op, Names: names, Kids: kids}
}

func scale(n int64, kids ...api.Expr) api.Expr {
	return api.Expr{Kind: api.ExScale, Op: api.OpMul, Num: n, Kids: kids}
}

func filter(n int64, kids ...api.Expr) api.Expr {
	return api.Expr{Kind: api.ExFilter, Op: api.OpMore, Num: n, Kids: kids}
}

// node makes a node with an Every of 5.
func node(x api.Expr, in ...int) api.Node {
	return api.Node{Every: 5, Expr: x, In: in}
}

// queries reads queries.
func queries(t *testing.T, texts ...string) []api.Query {
	t.Helper()
	var l []api.Query
	for _, s := range texts {
		q, f := parse.Query(s)
		if f != (api.Fault{}) {
			t.Fatal(s, f)
		}
		l = append(l, q)
	}
	return l
}

// chain returns a valid plan of n nodes, each of which feeds the next one.
func chain(n int) []api.Node {
	p := []api.Node{node(window("a", 7))}
	for i := 1; i < n; i++ {
		p = append(p, node([]api.Expr{scale(2), group(nil), filter(3)}[i%3], i))
	}
	return p
}

// twice returns a valid plan of n nodes, each of which feeds the next one twice.
func twice(n int) []api.Node {
	p := []api.Node{node(window("a", 7))}
	for i := 1; i < n; i++ {
		p = append(p, node(joined(api.OpAdd, nil), i, i))
	}
	return p
}

// windows returns a valid plan of n windows.
func windows(n int) []api.Node {
	var p []api.Node
	for i := range n {
		p = append(p, node(window("a", int64(i+1))))
	}
	return p
}

// windowQueries returns queries of n different windows.
func windowQueries(n int) []api.Query {
	var l []api.Query
	for i := range n {
		l = append(l, api.Query{Every: 5, Expr: window("a", int64(i+1))})
	}
	return l
}

// near returns nodes fed by as many of the first two as they must be, each of
// which differs little from another one, all with an Every of 5.
func near() []api.Node {
	is := func(name, text string) api.Matcher { return api.Matcher{Kind: api.MatchIs, Name: name, Text: text} }
	not := func(name, text string) api.Matcher { return api.Matcher{Kind: api.MatchNot, Name: name, Text: text} }
	var l []api.Node
	for _, metric := range []string{"a", "b", "sum", "_9"} {
		for fn := api.FnSum; fn <= api.FnIncrease; fn++ {
			for _, span := range []int64{1, 2, 1 << 30} {
				x := window(metric, span)
				x.Func = fn
				l = append(l, node(x))
			}
		}
	}
	for _, m := range [][]api.Matcher{
		{is("a", "")}, {not("a", "")}, {is("b", "")}, {is("a", "x")}, {is("a", "y")}, {is("a", "\"x")}, {is("a", "\xff")}, {is("a", `\xff`)},
		{is("a", "x"), is("a", "y")}, {is("a", "y"), is("a", "x")}, {is("a", "x"), not("a", "y")}, {is("a", "x"), is("a", "x")},
		{is("a", `x", a="y`)}, {is("a", `x", a="`), is("a", "y")},
	} {
		l = append(l, node(window("a", 1, m...)))
	}
	names := [][]string{nil, {"a"}, {"b"}, {"a", "b"}, {"a_b"}, {"on"}}
	for _, own := range names {
		for fn := api.GrTotal; fn <= api.GrMost; fn++ {
			for in := 1; in <= 2; in++ {
				x := group(own)
				x.Func = fn
				l = append(l, node(x, in))
			}
		}
		for op := api.OpAdd; op <= api.OpMul; op++ {
			for in := range 4 {
				l = append(l, node(joined(op, own), 1+in%2, 1+in/2))
			}
		}
	}
	for _, num := range []int64{0, 1, -1, 2, 5, math.MaxInt64, math.MinInt64} {
		for op := api.OpAdd; op <= api.OpNe; op++ {
			for in := 1; in <= 2; in++ {
				x := scale(num)
				if op >= api.OpLess {
					x = filter(num)
				}
				x.Op = op
				l = append(l, node(x, in))
			}
		}
	}
	return l
}

// A maker makes queries and plans in an order that looks like chance.
type maker struct {
	seed uint64
}

// next returns a number below n.
func (m *maker) next(n int) int {
	m.seed = m.seed*6364136223846793005 + 1442695040888963407
	return int(m.seed >> 33 % uint64(n))
}

// pick returns one of l.
func pick[T any](m *maker, l ...T) T {
	return l[m.next(len(l))]
}

// alone returns an expression of a kind, without kids. There are few of them, so
// that many are made again.
func (m *maker) alone(kind int) api.Expr {
	names := pick(m, nil, []string{"a"}, []string{"a", "b"})
	switch kind {
	case api.ExWindow:
		x := window(pick(m, "a", "b"), pick[int64](m, 1, 9, 1<<30))
		x.Func = 1 + m.next(2)
		for range m.next(3) {
			x.Match = append(x.Match, api.Matcher{Kind: 1 + m.next(2), Name: "a", Text: pick(m, "", "\"")})
		}
		return x
	case api.ExGroup:
		x := group(names)
		x.Func = 1 + m.next(2)
		return x
	case api.ExJoin:
		return joined(1+m.next(2), names)
	case api.ExScale:
		x := scale(int64(m.next(2)) - 1)
		x.Op = 1 + m.next(2)
		return x
	}
	x := filter(int64(m.next(2)) - 1)
	x.Op = 4 + m.next(2)
	return x
}

// expr returns an expression of at most deep levels.
func (m *maker) expr(deep int) api.Expr {
	kind := 1 + m.next(5)
	if deep <= 1 {
		kind = api.ExWindow
	}
	x := m.alone(kind)
	for i := range kidsOf[kind] {
		kid := m.expr(deep - 1)
		if i > 0 && m.next(3) == 0 {
			kid = x.Kids[0]
		}
		x.Kids = append(x.Kids, kid)
	}
	return x
}

// queries returns n queries of at most deep levels, many of which share a part
// with one before it.
func (m *maker) queries(n, deep int) []api.Query {
	var l []api.Query
	for i := range n {
		q := api.Query{Every: pick[int64](m, 1, 5, 1<<30), Expr: m.expr(1 + m.next(deep))}
		if i > 0 && m.next(2) == 0 {
			q = pick(m, l...)
		}
		for len(q.Expr.Kids) > 0 && m.next(2) == 0 {
			q.Expr = pick(m, q.Expr.Kids...)
		}
		l = append(l, q)
	}
	return l
}

// plan returns a valid plan of about n nodes, which need not be that of queries.
func (m *maker) plan(n int) []api.Node {
	var p []api.Node
	there, far := map[string]int{}, pick(m, 2, 5, 100)
	for range n {
		x := api.Node{Every: pick[int64](m, 5, 5, 5, 6)}
		var before []int
		for i := range p {
			if p[i].Every == x.Every {
				before = append(before, i+1)
			}
		}
		kind := 1 + m.next(5)
		switch {
		case len(before) == 0:
			kind = api.ExWindow
		case far == 2 && kind == api.ExWindow:
			kind = api.ExJoin
		}
		x.Expr = m.alone(kind)
		for range kidsOf[kind] {
			// Some plans are deep, and some are wide.
			x.In = append(x.In, before[len(before)-1-m.next(min(len(before), far))])
		}
		if there[dump(x)]++; there[dump(x)] == 1 {
			p = append(p, x)
		}
	}
	return p
}

// spoilt returns a plan with something changed, after which it may be none.
func (m *maker) spoilt(p []api.Node) []api.Node {
	p = slices.Clone(p)
	x := &p[m.next(len(p))]
	x.In = slices.Clone(x.In)
	switch m.next(12) {
	case 0:
		x.Every = pick[int64](m, 0, -1, 5, 6, 1<<30+1)
	case 1:
		x.Expr.Kind = m.next(8) - 1
	case 2:
		x.Expr.Func = m.next(9) - 1
	case 3:
		x.Expr.Op = m.next(12) - 1
	case 4:
		x.Expr.Num = int64(m.next(5) - 2)
	case 5:
		x.Expr.Metric = pick(m, "", "a", "A")
	case 6:
		x.Expr.Span = pick[int64](m, 0, -1, 1, 2, 1<<30+1)
	case 7:
		x.Expr.Names = pick(m, nil, []string{"b"}, []string{"b", "a"}, []string{"a", "a"}, []string{""})
	case 8:
		x.Expr.Kids = slices.Repeat([]api.Expr{window("a", 1)}, m.next(3))
	case 9:
		x.In = append(x.In, m.next(len(p)+3)-1)
	case 10:
		x.In = x.In[:max(0, len(x.In)-1)]
	case 11:
		if len(x.In) > 0 {
			x.In[m.next(len(x.In))] = m.next(len(p)+3) - 1
		} else {
			*x = p[m.next(len(p))]
		}
	}
	return p
}

// named returns a text for each number, all different.
func named(n int) string {
	return fmt.Sprintf("m_%d", n)
}
