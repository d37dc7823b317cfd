package flow_test

import (
	"math"

	"waterwheel/api"
	"waterwheel/plan"
)

// A dice gives numbers that look like chance.
type dice uint64

// of returns a number from 0 to n - 1.
func (d *dice) of(n int) int {
	*d = *d*6364136223846793005 + 1442695040888963407
	return int(*d >> 33 % dice(n))
}

// pick returns one of l.
func pick[T any](d *dice, l ...T) T {
	return l[d.of(len(l))]
}

// expr returns an expression of a kind, without kids. There are few of them.
func (d *dice) expr(kind int) api.Expr {
	x := api.Expr{Kind: kind}
	switch kind {
	case api.ExWindow:
		x.Metric, x.Func, x.Span = pick(d, "cpu", "cpu", "mem"), 1+d.of(6), int64(1+d.of(15))
		if d.of(3) == 0 {
			x.Match = []api.Matcher{{Kind: 1 + d.of(2), Name: "a", Text: pick(d, "", "x")}}
		}
	case api.ExGroup:
		x.Func, x.Names = 1+d.of(4), pick(d, nil, []string{"a"}, []string{"b"})
	case api.ExJoin:
		x.Op, x.Names = 1+d.of(3), pick(d, nil, []string{"a"}, []string{"a", "b"})
	case api.ExScale:
		x.Op, x.Num = 1+d.of(3), pick[int64](d, 2, -1, 3, math.MaxInt64)
	case api.ExFilter:
		x.Op, x.Num = 4+d.of(6), int64(d.of(4)-1)
	}
	return x
}

// plan returns a valid plan of at most n nodes. It need not be that of queries.
func (d *dice) plan(n int) []api.Node {
	var p []api.Node
	for range n {
		x := api.Node{Every: pick[int64](d, 3, 3, 3, 5)}
		var before []int
		for i := range p {
			if p[i].Every == x.Every {
				before = append(before, i+1)
			}
		}
		kind := pick(d, api.ExWindow, api.ExGroup, api.ExJoin, api.ExJoin, api.ExScale, api.ExFilter)
		if len(before) == 0 {
			kind = api.ExWindow
		}
		x.Expr = d.expr(kind)
		for range []int{api.ExGroup: 1, api.ExJoin: 2, api.ExScale: 1, api.ExFilter: 1}[kind] {
			x.In = append(x.In, pick(d, before...))
		}
		if more := append(p[:len(p):len(p)], x); plan.Check(more) == api.OK {
			p = more
		}
	}
	return p
}

// taps returns some nodes of a plan, in any order.
func (d *dice) taps(p []api.Node) []int {
	l := all(p)
	for i := range l {
		j := i + d.of(len(l)-i)
		l[i], l[j] = l[j], l[i]
	}
	return l[:d.of(len(l)+1)]
}

// number returns a number that is small, or near a limit.
func (d *dice) number() int64 {
	n := int64(d.of(7)) - 3
	return pick(d, n, n, n, n, n*10, math.MaxInt64-max(n, 0), math.MinInt64+max(n, 0))
}

// item returns a sample near a time, which may be late, or a pass.
func (d *dice) item(time int64) api.Item {
	if d.of(3) == 0 {
		return pass(max(time+int64(d.of(20))-4, 0))
	}
	i := from(pick(d, "cpu", "cpu", "mem", "m"), max(time+int64(d.of(12))-2, 1), d.number())
	for _, name := range []string{"a", "b"} {
		if text := pick(d, "", "x", "y"); text != "" {
			i.Sample.Labels = append(i.Sample.Labels, api.Label{Name: name, Text: text})
		}
	}
	return i
}
