package plan_test

import (
	"math"
	"slices"
	"strings"
	"testing"

	"waterwheel/api"
	"waterwheel/plan"
)

// wantCheck checks that Check returns an error, and that the calls of P17.2
// return it too, or nothing.
func wantCheck(t *testing.T, p []api.Node, want api.Errno) {
	t.Helper()
	if got := plan.Check(p); got != want {
		t.Fatalf("Check of %.2000v is %d, not %d", p, got, want)
	}
	if want == api.OK {
		return
	}
	for _, n := range []int{math.MinInt, -1, 0, 1, 2, len(p) / 2, len(p), len(p) + 1, math.MaxInt} {
		if q, e := plan.Query(p, n); e != want || !none(q) {
			t.Fatalf("Query of %d of %.2000v is %.2000v, error %d", n, p, q, e)
		}
		out, used, horizon := plan.Out(p, n), plan.Used(p, []int{n}), plan.Horizon(p, n)
		if out != nil || used != nil || horizon != 0 {
			t.Fatalf("%d of %.2000v: %v, %v, %d", n, p, out, used, horizon)
		}
		if q, to, e := plan.Only(p, []int{n}); q != nil || to != nil || e != want {
			t.Fatalf("Only %d of %.2000v is %.2000v, %v, error %d", n, p, q, to, e)
		}
	}
	q, to, e := plan.Only(p, nil)
	if leaves := plan.Leaves(p); leaves != nil || q != nil || to != nil || e != want {
		t.Fatalf("of %.2000v: %v, %.2000v, %v, error %d", p, leaves, q, to, e)
	}
}

// P17.1: a plan that differs from a valid one in a field of one of its nodes.
func TestFields(t *testing.T) {
	two := []api.Node{node(window("cpu", 1)), node(window("cpu", 2))}
	numbers := []int64{math.MinInt64, -1 << 32, -1 << 30, -2, -1, 0, 1, 2, 3, 4, 5, 6, 7, 8, 9, 10, 1<<30 - 1, 1 << 30, 1<<30 + 1, 1 << 32, 1<<32 + 1, math.MaxInt64}
	metrics := []string{"", "a", "_", "9", "A", "a b", "a-b", "é", strings.Repeat("z", 24), strings.Repeat("z", 25), "a\x00"}
	names := [][]string{nil, {"a"}, {"a", "b"}, {"b", "a"}, {"a", "a"}, {""}, {"A"}, strings.Fields("a b c d e f g h"), strings.Fields("a b c d e f g h i")}
	matches := [][]api.Matcher{
		nil, {{Kind: 1, Name: "a"}}, {{Kind: 2, Name: "a", Text: "x"}}, {{Kind: 3, Name: "a"}}, {{Kind: 0, Name: "a"}}, {{Kind: 1}}, {{}},
		slices.Repeat([]api.Matcher{{Kind: 1, Name: "a"}}, 8), slices.Repeat([]api.Matcher{{Kind: 1, Name: "a"}}, 9),
		{{Kind: 1, Name: "a", Text: strings.Repeat("x", 64)}}, {{Kind: 1, Name: "a", Text: strings.Repeat("x", 65)}},
	}
	counts := map[api.Errno]int{}
	checkOne := func(n api.Node) {
		t.Helper()
		p := append(slices.Clone(two), n)
		want := reference(p).check()
		counts[want]++
		wantCheck(t, p, want)
	}
	for _, n := range []api.Node{
		node(window("a", 1)), node(group(nil), 1), node(joined(api.OpAdd, nil), 1, 2), node(joined(api.OpAdd, []string{"a"}), 2, 2), node(scale(0), 2), node(filter(3), 1),
	} {
		for _, x := range numbers {
			for _, change := range []func(n *api.Node){
				func(n *api.Node) { n.Every = x },
				func(n *api.Node) { n.Expr.Kind = int(x) },
				func(n *api.Node) { n.Expr.Func = int(x) },
				func(n *api.Node) { n.Expr.Op = int(x) },
				func(n *api.Node) { n.Expr.Num = x },
				func(n *api.Node) { n.Expr.Span = x },
			} {
				own := n
				change(&own)
				checkOne(own)
			}
		}
		for _, own := range []api.Node{n, {Every: 5, Expr: n.Expr}, {Expr: n.Expr, In: n.In}, {Every: 5, In: n.In}} {
			checkOne(own)
		}
		for _, x := range metrics {
			own := n
			own.Expr.Metric = x
			checkOne(own)
		}
		for _, x := range names {
			own := n
			own.Expr.Names = x
			checkOne(own)
		}
		for _, x := range matches {
			own := n
			own.Expr.Match = x
			checkOne(own)
		}
	}
	if counts[api.OK] < 50 || counts[api.ErrArg] < 400 {
		t.Errorf("only %v", counts)
	}
}

// P17.1: a single node whose Every is in range, or not.
func TestEvery(t *testing.T) {
	for every, want := range map[int64]api.Errno{
		1: api.OK, 2: api.OK, 1<<30 - 1: api.OK, 1 << 30: api.OK,
		0: api.ErrArg, -1: api.ErrArg, 1<<30 + 1: api.ErrArg, 1 << 32: api.ErrArg, math.MaxInt64: api.ErrArg, math.MinInt64: api.ErrArg,
	} {
		wantCheck(t, []api.Node{{Every: every, Expr: window("a", 1)}}, want)
		wantCheck(t, []api.Node{{Every: every, Expr: window("a", 1)}, {Every: every, Expr: scale(1), In: []int{1}}}, want)
		wantCheck(t, []api.Node{{Every: 7, Expr: window("a", 1)}, {Every: every, Expr: window("a", 1)}}, want)
	}
}

// P17.1: each node is fed by nodes that are less than it.
func TestIn(t *testing.T) {
	before := windows(3)
	after := []api.Node{node(window("b", 1)), node(window("b", 2))}
	for _, in := range []int{math.MinInt, -1 << 32, -4, -1, 0, 1, 2, 3, 4, 5, 6, 7, 1000, 1001, 1<<32 + 1, math.MaxInt} {
		want := api.ErrArg
		if in >= 1 && in <= 3 {
			want = api.OK
		}
		for _, n := range []api.Node{
			node(scale(2), in), node(filter(2), in), node(group(nil), in),
			node(joined(1, nil), in, 1), node(joined(1, nil), 2, in), node(joined(1, nil), in, in),
		} {
			wantCheck(t, append(slices.Clone(before), n), want)
			wantCheck(t, slices.Concat(before, []api.Node{n}, after), want)
			wantCheck(t, slices.Concat(before, []api.Node{n, node(scale(7), 4)}, after), want)
		}
	}
	wantCheck(t, []api.Node{node(scale(2), 1)}, api.ErrArg)
	wantCheck(t, []api.Node{node(scale(2), 2), node(window("a", 1))}, api.ErrArg)
	wantCheck(t, []api.Node{node(scale(2), 2), node(scale(3), 1)}, api.ErrArg)
}

// P17.1: each node has as many In as its kind has kids.
func TestHowManyIn(t *testing.T) {
	for _, x := range []api.Expr{window("b", 1), group(nil), joined(1, nil), scale(1), filter(1)} {
		for n := range 5 {
			p := windows(3)
			p = append(p, node(x, []int{1, 2, 3, 1, 2}[:n]...))
			want := api.ErrArg
			if n == kidsOf[x.Kind] {
				want = api.OK
			}
			wantCheck(t, p, want)
		}
		for _, n := range []int{198, 199, 200, 201, 300, 1 << 16} {
			wantCheck(t, append(windows(3), node(x, slices.Repeat([]int{1}, n)...)), api.ErrArg)
		}
	}
}

// P17.1: the nodes by which a node is fed have its Every.
func TestSameEvery(t *testing.T) {
	p := []api.Node{{Every: 5, Expr: window("a", 1)}, {Every: 10, Expr: window("a", 1)}, {Every: 5, Expr: window("b", 1)}, {Every: 10, Expr: window("b", 1)}}
	for every := int64(5); every <= 10; every += 5 {
		for in := range 4 {
			is := p[in].Every == every
			for _, x := range []api.Expr{group(nil), scale(1), filter(1)} {
				wantCheck(t, append(slices.Clone(p), api.Node{Every: every, Expr: x, In: []int{in + 1}}), map[bool]api.Errno{true: api.OK, false: api.ErrArg}[is])
			}
			for other := range 4 {
				both := is && p[other].Every == every
				n := api.Node{Every: every, Expr: joined(1, nil), In: []int{in + 1, other + 1}}
				wantCheck(t, append(slices.Clone(p), n), map[bool]api.Errno{true: api.OK, false: api.ErrArg}[both])
			}
		}
	}
}

// P17.1: the Expr of a node has no kids, whatever they are.
func TestKids(t *testing.T) {
	endless := window("a", 1)
	for range 1 << 12 {
		endless = scale(1, endless)
	}
	for i, n := range chain(4) {
		for _, kids := range [][]api.Expr{{window("a", 1)}, {window("a", 1), window("a", 1)}, {{}}, {endless}, make([]api.Expr, 300)} {
			p := chain(4)
			n.Expr.Kids = kids
			p[i] = n
			wantCheck(t, p, api.ErrArg)
			p[i].In = nil
			wantCheck(t, p, api.ErrArg)
		}
	}
	wantCheck(t, []api.Node{node(window("a", 1)), node(joined(1, nil, window("a", 1), window("a", 1)), 1, 1)}, api.ErrArg)
}

// P17.1: no two nodes are equal. All that differ in anything are a valid plan.
func TestNearNodes(t *testing.T) {
	p := append([]api.Node{node(window("cpu", 1)), node(window("cpu", 2))}, near()...)
	n := len(p)
	for _, x := range p[:n:n] {
		x.Every = 6
		if len(x.In) > 0 {
			x.In = slices.Clone(x.In)
			for i := range x.In {
				x.In[i] += n
			}
		}
		p = append(p, x)
	}
	if len(p) > 1000 {
		t.Fatalf("%d nodes", len(p))
	}
	wantCheck(t, p, api.OK)
	for i, x := range p {
		if got := plan.Check(append(slices.Clone(p), x)); got != api.ErrArg {
			t.Errorf("Check with %v twice is %d", x, got)
		}
		if i < n && len(x.In) == 0 {
			if got := plan.Check([]api.Node{x, x}); got != api.ErrArg {
				t.Errorf("Check of %v twice is %d", x, got)
			}
		}
	}
}

// P17.1: the limit of nodes, before all else.
func TestMaxNodesOfCheck(t *testing.T) {
	for n, want := range map[int]api.Errno{1: api.OK, 999: api.OK, 1000: api.OK, 1001: api.ErrLong, 1002: api.ErrLong, 70000: api.ErrLong} {
		wantCheck(t, windows(n), want)
		wantCheck(t, chain(n), want)
		wantCheck(t, twice(n), want)
	}
	for n, want := range map[int]api.Errno{1: api.ErrArg, 1000: api.ErrArg, 1001: api.ErrLong, 70000: api.ErrLong} {
		wantCheck(t, make([]api.Node, n), want)
		wantCheck(t, append([]api.Node{node(window("a", 1))}, make([]api.Node, n)[1:]...), map[bool]api.Errno{true: api.OK, false: want}[n == 1])
		wrong := windows(n)
		wrong[n-1].Every = 0
		wantCheck(t, wrong, want)
		wrong = chain(n)
		wrong[0].In = []int{n}
		wantCheck(t, wrong, want)
	}
	same := windows(1000)
	same[999] = same[0]
	wantCheck(t, same, api.ErrArg)
	wantCheck(t, append(windows(1000), windows(1)...), api.ErrLong)
}

// P17.1: plans that look like chance, with something changed, against the
// reference.
func TestSpoilt(t *testing.T) {
	m := &maker{seed: 3}
	counts := map[api.Errno]int{}
	for range 20000 {
		p := m.plan(1 + m.next(12))
		wantCheck(t, p, api.OK)
		p = m.spoilt(p)
		want := reference(p).check()
		counts[want]++
		wantCheck(t, p, want)
	}
	if counts[api.OK] < 2500 || counts[api.ErrArg] < 7000 {
		t.Errorf("only %v", counts)
	}
}
