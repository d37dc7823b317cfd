package flow_test

import (
	"math"
	"slices"
	"testing"

	"waterwheel/api"
	"waterwheel/flow"
	"waterwheel/oper"
	"waterwheel/plan"
)

// The limits of numbers of nodes, and of picks.
func numbers(nodes int) []int {
	return []int{math.MinInt, -nodes - 1, -nodes, -1, 0, nodes + 1, nodes + 2, 1 << 32, math.MaxInt}
}

// P21.2, P21.3: the example of the chapter.
func TestExample(t *testing.T) {
	p, roots := planOf(t, "every 5: sum(cpu[10]) * 2")
	if len(p) != 2 || !slices.Equal(roots, []int{2}) {
		t.Fatal(p, roots)
	}
	x := made(t, p, roots, 0, 4)
	if x.feed(t, cpu(3, 1, "a", "x"), pass(10)) != api.OK || x.run(t, 1, 0, 0, 1, 1) != 4 {
		t.Error("other steps")
	}
	x.wantBatches(t, 2, at(5, put(2, "a", "x")), at(10))
}

// P21.1: a new flow, at the limits of marks and rooms.
func TestNew(t *testing.T) {
	p, _ := planOf(t, "every 5: sum(cpu[10]) * 2", "every 3: total by (a) (max(cpu[4])) - min(mem[7])", "every 5: sum(cpu[10])")
	for _, taps := range [][]int{nil, {}, {1}, {6}, {3, 1}, all(p)} {
		for _, mark := range []int64{0, 1, 5, 1<<40 - 1, 1 << 40} {
			for _, room := range []int{1, 2, 4095, 4096} {
				x := made(t, p, taps, mark, room)
				for i, n := range p {
					o, _ := oper.New(n, mark)
					if string(x.f.Oper(i+1)) != string(o.Bytes()) || x.f.Told(i+1) != mark || len(x.f.Vector(i+1)) != 0 || len(x.f.Outlet(i+1)) != 0 || x.f.Can(i+1) {
						t.Errorf("node %d has something", i+1)
					}
					want := api.ErrArg
					if slices.Contains(taps, i+1) {
						want = api.ErrNone
					}
					if b, e := x.f.Take(i + 1); e != want || dump(b) != dump(api.Batch{}) {
						t.Errorf("take of %d: error %d, not %d", i+1, e, want)
					}
				}
				x.wantQueues(t, make([]int, 7)...)
				if !x.f.Idle() || x.run(t, 0, 1, 2, 3, 4, 5) != 0 || x.drain(t) != 0 {
					t.Error("a new flow is not idle")
				}
			}
		}
	}
}

// wantNew checks the error of New.
func wantNew(t *testing.T, want api.Errno, p []api.Node, taps []int, mark int64, room int) {
	t.Helper()
	if f, e := flow.New(p, taps, mark, room); e != want || (f != nil) != (want == api.OK) {
		t.Errorf("%d nodes, taps %d, mark %d, room %d: a flow %t, error %d, not %d", len(p), taps, mark, room, f != nil, e, want)
	}
}

// windows returns a valid plan of n windows.
func windows(n int) (p []api.Node) {
	for i := range n {
		p = append(p, api.Node{Every: 5, Expr: api.Expr{Kind: api.ExWindow, Func: api.FnSum, Metric: "cpu", Span: int64(i + 1)}})
	}
	return p
}

// P21.1: the errors of New. That of the plan comes first.
func TestNewErrors(t *testing.T) {
	p, _ := planOf(t, "every 5: sum(cpu[10]) * 2")
	for _, node := range numbers(len(p)) {
		for _, taps := range [][]int{{node}, {1, node}, {node, 1}, {2, 1, node}, {node, node}} {
			wantNew(t, api.ErrArg, p, taps, 0, 4)
		}
	}
	for _, taps := range [][]int{{1, 1}, {2, 2}, {1, 2, 1}, {2, 1, 1}, {1, 2, 2}, make([]int, 1000), slices.Repeat([]int{1}, 5000)} {
		wantNew(t, api.ErrArg, p, taps, 0, 4)
	}
	for _, mark := range []int64{math.MinInt64, -1, 1<<40 + 1, math.MaxInt64} {
		wantNew(t, api.ErrArg, p, nil, mark, 4)
		wantNew(t, api.ErrArg, nil, nil, mark, 4)
	}
	for _, room := range []int{math.MinInt, -1, 0, 4097, 1 << 32, math.MaxInt} {
		wantNew(t, api.ErrArg, p, []int{2}, 0, room)
		wantNew(t, api.ErrArg, nil, nil, 0, room)
	}
	wantNew(t, api.ErrLong, windows(1001), nil, 0, 4)
	wantNew(t, api.ErrLong, windows(1001), []int{0}, -1, 0)
	wantNew(t, api.ErrLong, make([]api.Node, 1001), []int{0}, -1, 0)
	long := windows(1000)
	wantNew(t, api.OK, long, []int{1000, 1, 500}, 0, 4096)
	wantNew(t, api.ErrArg, long, []int{1001}, 0, 4096)
	for _, change := range []func(p []api.Node){
		func(p []api.Node) { p[0].Every = 0 }, func(p []api.Node) { p[0].Every = 6 }, func(p []api.Node) { p[0].Expr.Span = 0 },
		func(p []api.Node) { p[0].Expr.Kind = 9 }, func(p []api.Node) { p[1].In = nil }, func(p []api.Node) { p[1].In = []int{2} },
		func(p []api.Node) { p[1].In = []int{0} }, func(p []api.Node) { p[1].In = []int{1, 1} }, func(p []api.Node) { p[0].In = []int{1} },
		func(p []api.Node) { p[1] = p[0] }, func(p []api.Node) { p[0], p[1] = p[1], p[0] }, func(p []api.Node) { p[1] = api.Node{} },
		func(p []api.Node) { p[1].Expr.Kids = []api.Expr{p[0].Expr} }, func(p []api.Node) { p[1].Expr.Op = 4 },
	} {
		bad := slices.Clone(p)
		change(bad)
		if e := plan.Check(bad); e != api.ErrArg {
			t.Fatalf("check: error %d", e)
		}
		wantNew(t, api.ErrArg, bad, []int{2}, 0, 4)
	}
}

// P21.1, P21.2: a plan without nodes.
func TestNoNodes(t *testing.T) {
	x := made(t, nil, nil, 7, 1)
	if !x.f.Idle() || x.run(t, 0, 1, -1, math.MinInt, math.MaxInt) != 0 || x.run(t) != 0 || x.drain(t) != 0 {
		t.Error("a step without nodes")
	}
	if x.feed(t) != api.OK || x.feed(t, pass(5), cpu(1, 1), pass(6)) != api.OK || x.feed(t, pass(5), pass(-1)) != api.ErrArg || !x.f.Idle() {
		t.Error("feed without leaves")
	}
	wantNoNodes(t, x.f, 0, 1)
	wantNew(t, api.ErrArg, nil, []int{1}, 7, 1)
	wantNew(t, api.ErrArg, []api.Node{}, []int{0}, 7, 1)
	wantNew(t, api.OK, []api.Node{}, []int{}, 7, 1)
}

// wantNoNodes checks that numbers are not those of nodes.
func wantNoNodes(t *testing.T, f *flow.Flow, nodes ...int) {
	t.Helper()
	for _, node := range nodes {
		wantNothing(t, f, node)
		if did, e := f.Step(node); did || e != api.ErrArg {
			t.Errorf("step of %d: %t, error %d", node, did, e)
		}
		if b, e := f.Take(node); dump(b) != dump(api.Batch{}) || e != api.ErrArg {
			t.Errorf("take of %d: %s, error %d", node, dump(b), e)
		}
	}
}

// P21.2, P21.3: numbers that are not those of nodes, also while others can step.
func TestNumbers(t *testing.T) {
	p, _ := planOf(t, "every 5: sum(cpu[10]) * 2")
	x := made(t, p, all(p), 0, 4)
	wantNoNodes(t, x.f, numbers(2)...)
	x.feed(t, cpu(3, 1), pass(10), pass(11))
	x.run(t, 0, 0, 1)
	wantNoNodes(t, x.f, numbers(2)...)
	x.wantQueues(t, 1, 1)
}

// P21.2: the errors of Feed, and that they have no effect.
func TestFeedErrors(t *testing.T) {
	p, _ := planOf(t, "every 5: sum(cpu[10]) + on () max(mem[3])")
	batch := api.Item{Kind: api.ItemBatch, Batch: at(5)}
	long := cpu(1, 1)
	long.Sample.Labels = make([]api.Label, 9)
	both := cpu(1, 1)
	both.Time = 1
	bad := []api.Item{
		{}, {Kind: -1}, {Kind: 4}, {Kind: api.ItemSample}, {Kind: api.ItemBatch}, batch, {Kind: api.ItemBatch, Batch: at(5, put(1))},
		cpu(0, 1), cpu(-1, 1), cpu(1<<40+1, 1), cpu(math.MinInt64, 1), cpu(1, 1, "b", "x", "a", "x"), cpu(1, 1, "a", ""), from("", 1, 1), from("CPU", 1, 1),
		pass(-1), pass(math.MinInt64), pass(1<<40 + 1), pass(math.MaxInt64), long, both, {Kind: api.ItemPass, Batch: at(5)}, {Kind: api.ItemPass, Sample: both.Sample},
	}
	for room := 1; room <= 4; room++ {
		for there := range room + 1 {
			x := made(t, p, all(p), 0, room)
			if e := x.feed(t, slices.Repeat([]api.Item{pass(1)}, there)...); e != api.OK {
				t.Fatal(e)
			}
			for _, i := range bad {
				for _, l := range [][]api.Item{{i}, {i, pass(2)}, {pass(2), i}, slices.Concat(slices.Repeat([]api.Item{cpu(2, 2)}, 5), []api.Item{i})} {
					if e := x.feed(t, l...); e != api.ErrArg {
						t.Errorf("room %d: feed of %v: error %d", room-there, i, e)
					}
				}
			}
			for n := room - there + 1; n <= room+2; n++ {
				if e := x.feed(t, slices.Repeat([]api.Item{cpu(2, 2)}, n)...); e != api.ErrBusy {
					t.Errorf("room %d: feed of %d: error %d", room-there, n, e)
				}
			}
			x.wantQueues(t, there, there, 0, 0)
			for n := range room - there + 1 {
				if e := x.feed(t, slices.Repeat([]api.Item{cpu(2, 2)}, n)...); e != api.OK {
					t.Errorf("room %d: feed of %d: error %d", room-there, n, e)
				}
				x.wantQueues(t, there+n, there+n, 0, 0)
				for x.f.Queues(1)[0] > there {
					x.step(t, 1)
					x.step(t, 2)
				}
			}
		}
	}
}

// P21.2: one leaf without room for all items is enough.
func TestFeedBusyLeaf(t *testing.T) {
	p, _ := planOf(t, "every 5: sum(cpu[10])", "every 6: sum(cpu[10])", "every 5: sum(mem[10]) * 2")
	for busy := 1; busy <= 3; busy++ {
		x := made(t, p, nil, 0, 3)
		x.feed(t, pass(1), pass(2))
		for node := 1; node <= 3; node++ {
			for range 2 {
				if node != busy {
					x.step(t, node)
				}
			}
		}
		before := []int{0, 0, 0, 0}
		before[busy-1] = 2
		x.wantQueues(t, before...)
		if x.feed(t, pass(3), pass(4)) != api.ErrBusy {
			t.Error("a busy leaf is fed")
		}
		x.wantQueues(t, before...)
		if x.feed(t) != api.OK || x.feed(t, pass(3)) != api.OK {
			t.Error("no room")
		}
		x.wantQueues(t, before[0]+1, before[1]+1, before[2]+1, 0)
		if x.feed(t, pass(3)) != api.ErrBusy || x.feed(t) != api.OK {
			t.Error("a busy leaf is fed")
		}
	}
}

// P21.2: a feed at the greatest room, and the order of what is fed.
func TestFeedRoom(t *testing.T) {
	p, _ := planOf(t, "every 1: last(cpu[1])")
	x := made(t, p, all(p), 0, 4096)
	var l []api.Item
	for n := range int64(2048) {
		l = append(l, cpu(n+1, n*n), pass(n+1))
	}
	if e := x.f.Feed(append(l, pass(1))...); e != api.ErrBusy || !x.f.Idle() {
		t.Fatalf("error %d", e)
	}
	if e := x.f.Feed(l...); e != api.OK || x.f.Feed(pass(1)) != api.ErrBusy || x.f.Queues(1)[0] != 4096 {
		t.Fatalf("error %d", e)
	}
	if n := x.f.Drain(); n != 4096 || !x.f.Idle() {
		t.Fatalf("%d steps", n)
	}
	for n, b := range x.f.Outlet(1) {
		if dump(b) != dump(at(int64(n+1), put(int64(n*n)))) {
			t.Fatalf("batch %d is %s", n, dump(b))
		}
	}
	if n := len(x.f.Outlet(1)); n != 2048 {
		t.Errorf("%d batches", n)
	}
}

// P21.2: which node a pick means.
func TestRunPicks(t *testing.T) {
	for n := 1; n <= 5; n++ {
		for _, pick := range append(numbers(n), 1, 2, 3, 7, 1000, -2, -3, -7, -1000, math.MinInt+1, math.MaxInt-1) {
			x := made(t, windows(n), nil, 0, 2)
			x.feed(t, cpu(1, 1), pass(5))
			x.run(t, pick)
			want := slices.Repeat([]int{2}, n)
			for node := range n {
				// The difference is a multiple of the number of nodes.
				if (pick%n-node)%n == 0 {
					want[node] = 1
				}
			}
			x.wantQueues(t, want...)
			if got := x.run(t, pick, pick, pick); got != 1 {
				t.Errorf("pick %d of %d nodes: %d steps", pick, n, got)
			}
		}
	}
	x := made(t, windows(3), nil, 0, 2)
	x.feed(t, cpu(1, 1), pass(5))
	if x.run(t) != 0 || x.run(t, []int{}...) != 0 || x.run(t, -1, 5, 2, -4, 3) != 3 {
		t.Error("other steps")
	}
	x.wantQueues(t, 1, 2, 0)
}

// P21.2: a drain lets the least node step first, so that it ends with the same
// queues as the reference, whatever the room, and does nothing more then.
func TestDrainOrder(t *testing.T) {
	p, _ := planOf(t, "every 5: sum(cpu[10]) + on () (sum(cpu[10]) * 2 - on () max(mem[3])) + on () total by () (max(mem[3]))", "every 2: sum(cpu[3]) > 1")
	for room := 1; room <= 6; room++ {
		for _, taps := range [][]int{nil, {1}, {2}, {4}, {len(p)}, {3, len(p)}, all(p)} {
			x := made(t, p, taps, 0, room)
			for n := int64(1); n <= 8; n++ {
				x.feed(t, pass(7*n))
				x.feed(t, cpu(7*n+1, n), cpu(7*n+2, n, "a", "x"), from("mem", 7*n+2, 1, "a", "x"), pass(7*n+3))
				x.drain(t)
				x.check(t)
				if x.drain(t) != 0 {
					t.Fatal("a step after a drain")
				}
				if n%3 == 0 {
					for _, tap := range taps {
						x.take(t, tap)
					}
				}
			}
		}
	}
}

// P21.3: Take and Outlet of taps, and of others.
func TestTake(t *testing.T) {
	p, _ := planOf(t, "every 5: (sum(cpu[10]) * 2) + on () count(cpu[10])")
	x := made(t, p, []int{4, 2}, 0, 3)
	wantErrors := func(want ...api.Errno) {
		t.Helper()
		for i, w := range want {
			if b, e := x.f.Take(i + 1); e != w || dump(b) != dump(api.Batch{}) {
				t.Errorf("take of %d: %s, error %d, not %d", i+1, dump(b), e, w)
			}
		}
	}
	wantErrors(api.ErrArg, api.ErrNone, api.ErrArg, api.ErrNone)
	x.feed(t, cpu(3, 4), pass(15))
	x.drain(t)
	x.check(t)
	wantErrors(api.ErrArg)
	if l := x.f.Outlet(2); dump(l...) != dump(at(5, put(8)), at(10), at(15, gone())) {
		t.Errorf("outlet %s", dump(l...))
	}
	for i := 1; i <= 4; i++ {
		if n, want := len(x.f.Outlet(i)), []int{0, 0, 3, 0, 3}[i]; n != want {
			t.Errorf("outlet of %d: %d batches", i, n)
		}
	}
	if b, e := x.take(t, 4); e != api.OK || dump(b) != dump(at(5, put(9))) {
		t.Errorf("%s, error %d", dump(b), e)
	}
	x.check(t)
	x.feed(t, pass(20))
	x.drain(t)
	x.wantBatches(t, 4, at(10), at(15, gone()))
	x.wantBatches(t, 2, at(5, put(8)), at(10), at(15, gone()))
	wantErrors(api.ErrArg, api.ErrNone, api.ErrArg, api.ErrNone)
	x.drain(t)
	x.wantBatches(t, 4, at(20))
	x.wantBatches(t, 2, at(20))
	if len(x.f.Vector(4)) != 0 || x.f.Told(4) != 20 || !x.f.Idle() {
		t.Error("something is left")
	}
}

// P21.3: Told and Vector of each node, step by step.
func TestToldAndVector(t *testing.T) {
	p, _ := planOf(t, "every 5: sum(cpu[10]) * 2")
	x := made(t, p, nil, 3, 4)
	want := func(told1, told2 int64, n1, n2 int64, queues ...int) {
		t.Helper()
		x.wantQueues(t, queues...)
		if x.f.Told(1) != told1 || x.f.Told(2) != told2 {
			t.Errorf("told %d and %d", x.f.Told(1), x.f.Told(2))
		}
		for node, n := range []int64{n1, n2} {
			v := x.f.Vector(node + 1)
			if n == 0 && len(v) != 0 || n != 0 && (len(v) != 1 || v[0].N != n || v[0].Over || len(v[0].Labels) != 0) {
				t.Errorf("vector of %d: %v", node+1, v)
			}
		}
	}
	want(3, 3, 0, 0, 0, 0)
	x.feed(t, cpu(4, 1), cpu(8, 2), pass(4), pass(12))
	want(3, 3, 0, 0, 4, 0)
	x.run(t, 0, 0, 0)
	want(4, 3, 0, 0, 1, 0)
	x.run(t, 0)
	want(12, 3, 3, 0, 0, 2)
	x.run(t, 1)
	want(12, 5, 3, 2, 0, 1)
	x.run(t, 1)
	want(12, 10, 3, 6, 0, 0)
	x.feed(t, pass(24))
	x.run(t, 0, 1, 1)
	want(24, 20, 0, 0, 0, 0)
}

// Rule 7: a flow that nobody made.
func TestInvalid(t *testing.T) {
	p, roots := planOf(t, "every 5: sum(cpu[10]) * 2")
	f, _ := flow.New(p, roots, 7, 4)
	f.Feed(cpu(8, 1), pass(10), pass(20))
	f.Run([]int{0, 0, 1})
	twin := *f
	for _, g := range []*flow.Flow{nil, {}, &twin, new(flow.Flow)} {
		for _, node := range append(numbers(2), 1, 2) {
			wantNothing(t, g, node)
			if did, e := g.Step(node); did || e != api.ErrNil {
				t.Errorf("step: %t, error %d", did, e)
			}
			if b, e := g.Take(node); dump(b) != dump(api.Batch{}) || e != api.ErrNil {
				t.Errorf("take: %s, error %d", dump(b), e)
			}
		}
		if g.Feed() != api.ErrNil || g.Feed(pass(1)) != api.ErrNil || g.Feed(pass(-1)) != api.ErrNil || g.Feed(slices.Repeat([]api.Item{pass(1)}, 5000)...) != api.ErrNil {
			t.Error("feed of an invalid flow")
		}
		if g.Run([]int{0, 1, 2}) != 0 || g.Run(nil) != 0 || g.Drain() != 0 || g.Idle() {
			t.Error("an invalid flow does something")
		}
	}
	if !slices.Equal(f.Queues(1), []int{1}) || f.Drain() != 3 || dump(f.Outlet(2)...) != dump(at(10, put(2)), at(15), at(20, gone())) {
		t.Error("the flow does not go on")
	}
}
