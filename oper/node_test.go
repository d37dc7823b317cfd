package oper_test

import (
	"math"
	"slices"
	"strings"
	"testing"

	"waterwheel/api"
	"waterwheel/oper"
)

// wantNode checks CheckNode, and New with marks at their limits.
func wantNode(t *testing.T, n api.Node) bool {
	t.Helper()
	want := api.ErrArg
	if refNode(n) {
		want = api.OK
	}
	if e := oper.CheckNode(n); e != want {
		t.Errorf("check of %s: error %d, not %d", dumpNode(n), e, want)
	}
	for _, mark := range []int64{math.MinInt64, -1, 0, 1, 7, 1<<40 - 1, 1 << 40, 1<<40 + 1, math.MaxInt64} {
		o, e := oper.New(n, mark)
		if want != api.OK || mark < 0 || mark > 1<<40 {
			if o != nil || e != api.ErrArg {
				t.Errorf("new of %s at %d: an operator %t, error %d", dumpNode(n), mark, o != nil, e)
			}
			continue
		}
		if o == nil || e != api.OK {
			t.Errorf("new of %s at %d: an operator %t, error %d", dumpNode(n), mark, o != nil, e)
			continue
		}
		x := pair{o, reference{node: n, told: mark, sides: make([]refSide, len(n.In))}}
		x.check(t)
	}
	return want == api.OK
}

// eight returns eight labels, and eightNames their names.
func eight() (l []api.Label) {
	for _, name := range eightNames() {
		l = append(l, api.Label{Name: name, Text: strings.Repeat(name, 64)})
	}
	return l
}

func eightNames() []string {
	return strings.Split("abcdefgh", "")
}

// goods returns valid nodes of each kind, some of them at their limits.
func goods() []api.Node {
	long := strings.Repeat("a", 24)
	l := append(others(5), others(1<<30)...)
	for fn := api.FnSum; fn <= api.FnIncrease; fn++ {
		l = append(l, leaf(1, fn, 1), leaf(1<<30, fn, 1<<30), leaf(5, fn, 10, is("a", ""), not("a", strings.Repeat("\xff", 64))))
	}
	n := leaf(5, api.FnSum, 9, slices.Repeat([]api.Matcher{not(long, "\x00")}, 8)...)
	n.Expr.Metric = long
	l = append(l, n, grouped(5, api.GrMany, eightNames()...), joined(5, api.OpAdd, eightNames()...), grouped(5, api.GrMost, "_", long))
	for _, num := range []int64{math.MinInt64, -1, 0, 1, math.MaxInt64} {
		l = append(l, scaled(5, api.OpMul, num), filtered(5, api.OpLeast, num))
	}
	for _, in := range [][]int{{1}, {1000}, {500}} {
		for _, n := range []api.Node{grouped(5, api.GrTotal), scaled(5, api.OpAdd, 1), filtered(5, api.OpEq, 1)} {
			n.In = in
			l = append(l, n)
		}
	}
	for _, in := range [][]int{{1, 1}, {1000, 1000}, {2, 1}, {1, 1000}} {
		n := joined(5, api.OpSub, "a")
		n.In = in
		l = append(l, n)
	}
	empty := leaf(5, api.FnSum, 9)
	empty.Expr.Match, empty.Expr.Names, empty.Expr.Kids, empty.In = []api.Matcher{}, []string{}, []api.Expr{}, []int{}
	return append(l, empty)
}

// P18.1: nodes that are valid, with all fields at their limits.
func TestCheckNode(t *testing.T) {
	for _, n := range goods() {
		if !wantNode(t, n) {
			t.Errorf("%s is not valid", dumpNode(n))
		}
	}
}

// numbers has numbers that fields may have, and others.
func numbers() []int64 {
	return []int64{math.MinInt64, -1 << 32, -1, 0, 1, 2, 3, 4, 5, 6, 7, 8, 9, 10, 999, 1000, 1001, 1<<30 - 1, 1 << 30, 1<<30 + 1, 1<<32 + 1, math.MaxInt64}
}

// badLists has names, matchers and kids that a node may not have.
func badLists() (names [][]string, match [][]api.Matcher, kids [][]api.Expr) {
	names = [][]string{
		{""}, {"A"}, {"1"}, {"a", ""}, {"", "a"}, {"a", "a"}, {"b", "a"}, {"aa", "a"}, {"a", "c", "b"}, {strings.Repeat("a", 25)},
		strings.Split("abcdefghi", ""), slices.Repeat([]string{""}, 100),
	}
	for _, m := range []api.Matcher{{}, {Kind: 1}, {Name: "a"}, {Kind: 3, Name: "a"}, {Kind: -1, Name: "a"}, {Kind: 1, Name: "A"}, is("a", strings.Repeat("x", 65))} {
		match = append(match, []api.Matcher{m}, []api.Matcher{is("a", "x"), m})
	}
	match = append(match, slices.Repeat([]api.Matcher{is("a", "x")}, 9))
	w := leaf(5, api.FnSum, 1).Expr
	deep := w
	for range 20 {
		deep = api.Expr{Kind: api.ExScale, Op: api.OpAdd, Kids: []api.Expr{deep}}
	}
	return names, match, [][]api.Expr{{w}, {w, w}, {{}}, {deep}, slices.Repeat([]api.Expr{w}, 300)}
}

// P18.1: each field of nodes of each kind with each of many numbers and lists.
func TestCheckNodeFields(t *testing.T) {
	names, match, kids := badLists()
	names = append(names, nil, []string{"a"}, []string{"a", "b"}, eightNames())
	match = append(match, nil, []api.Matcher{is("a", "")}, slices.Repeat([]api.Matcher{not("a", "x")}, 8))
	count := 0
	try := func(n api.Node) {
		t.Helper()
		if wantNode(t, n) {
			count++
		}
	}
	for _, good := range []api.Node{leaf(5, api.FnMax, 3), grouped(5, api.GrLeast, "a"), joined(5, api.OpMul, "b"), scaled(5, api.OpSub, 3), filtered(5, api.OpMore, 7)} {
		for _, x := range numbers() {
			for _, change := range []func(n *api.Node){
				func(n *api.Node) { n.Every = x }, func(n *api.Node) { n.Expr.Kind = int(x) }, func(n *api.Node) { n.Expr.Func = int(x) },
				func(n *api.Node) { n.Expr.Op = int(x) }, func(n *api.Node) { n.Expr.Num = x }, func(n *api.Node) { n.Expr.Span = x },
				func(n *api.Node) { n.In = []int{int(x)} }, func(n *api.Node) { n.In = []int{int(x), 1} }, func(n *api.Node) { n.In = []int{1, int(x)} },
				func(n *api.Node) { n.In = []int{1, 1, int(x)} },
			} {
				n := good
				change(&n)
				try(n)
			}
		}
		for _, s := range []string{"", "a", "cpu", "A", "1a", "a b", strings.Repeat("a", 24), strings.Repeat("a", 25)} {
			n := good
			n.Expr.Metric = s
			try(n)
		}
		for _, l := range names {
			n := good
			n.Expr.Names = l
			try(n)
		}
		for _, m := range match {
			n := good
			n.Expr.Match = m
			try(n)
		}
		for _, l := range kids {
			for _, in := range [][]int{nil, {1}, {1, 2}} {
				n := good
				n.Expr.Kids, n.In = l, in
				try(n)
			}
		}
		n := good
		n.In = nil
		try(n)
	}
	try(api.Node{})
	if count < 100 {
		t.Errorf("only %d valid nodes", count)
	}
}

// P18.1: an expression that is within itself.
func TestCheckNodeEndless(t *testing.T) {
	endless := make([]api.Expr, 1)
	endless[0] = api.Expr{Kind: api.ExScale, Op: api.OpAdd, Kids: endless}
	for _, in := range [][]int{nil, {1}} {
		n := api.Node{Every: 5, Expr: endless[0], In: in}
		if e := oper.CheckNode(n); e != api.ErrArg {
			t.Errorf("error %d", e)
		}
		if o, e := oper.New(n, 0); o != nil || e != api.ErrArg {
			t.Errorf("an operator %t, error %d", o != nil, e)
		}
	}
}

// P18.1: a new operator has nothing, whatever its mark is.
func TestNew(t *testing.T) {
	for _, n := range goods() {
		for _, mark := range []int64{0, 1, 4, 5, 6, 1 << 30, 1<<40 - 1, 1 << 40} {
			x := made(t, n, mark)
			x.check(t)
			if x.o.Told() != mark || len(x.o.Vector()) != 0 || len(x.o.Kept()) != 0 || x.o.Waits(1) != 0 || x.o.Waits(2) != 0 {
				t.Errorf("%s at %d is not new", dumpNode(n), mark)
			}
			x.again(t)
			x.check(t)
		}
	}
}

// calls calls everything of an operator that is not valid.
func calls(t *testing.T, name string, o *oper.Oper) {
	t.Helper()
	for _, s := range []api.Sample{of(3, 1), of(0, 1), {}, {Series: api.Series{Labels: make([]api.Label, 9)}}} {
		if e := o.Sample(s); e != api.ErrNil {
			t.Errorf("%s: sample: error %d", name, e)
		}
	}
	for _, time := range []int64{-1, 0, 5, 1 << 30, 1 << 40, math.MaxInt64} {
		if l, e := o.Pass(time); len(l) != 0 || e != api.ErrNil {
			t.Errorf("%s: pass: %v, error %d", name, l, e)
		}
		for side := -1; side <= 3; side++ {
			for _, b := range []api.Batch{at(time), at(time, put(1)), at(time, api.Change{Gone: true, Value: api.Value{N: 1}})} {
				if l, e := o.Take(side, b); len(l) != 0 || e != api.ErrNil {
					t.Errorf("%s: take: %v, error %d", name, l, e)
				}
			}
			if o.Waits(side) != 0 {
				t.Errorf("%s: %d batches wait", name, o.Waits(side))
			}
		}
	}
	if len(o.Vector()) != 0 || o.Told() != 0 || len(o.Kept()) != 0 || len(o.Bytes()) != 0 || dumpNode(o.Node()) != dumpNode(api.Node{}) {
		t.Errorf("%s has something", name)
	}
}

// Rule 7: a nil pointer, a zero value and a copy are no operators.
func TestInvalid(t *testing.T) {
	x := made(t, leaf(5, api.FnSum, 10), 3)
	x.sample(t, of(4, 7, "a", "x"), of(8, 1))
	x.pass(t, 5)
	y := made(t, joined(5, api.OpAdd), 0)
	y.take(t, 1, at(5, put(3)))
	one, two := *x.o, *y.o
	for name, o := range map[string]*oper.Oper{"nil": nil, "zero": {}, "new": new(oper.Oper), "copy of a leaf": &one, "copy of a join": &two} {
		calls(t, name, o)
	}
	x.check(t)
	y.check(t)
	x.pass(t, 20)
	y.take(t, 2, at(5, put(4)))
	x.check(t)
	y.check(t)
}
