package flow_test

import (
	"fmt"
	"maps"
	"slices"
	"testing"

	"waterwheel/api"
	"waterwheel/batch"
	"waterwheel/flow"
	"waterwheel/group"
	"waterwheel/plan"
	"waterwheel/sample"
)

// P21.2, P21.3: all lists of five calls of few, with each small room.
func TestEveryCall(t *testing.T) {
	calls := []func(t *testing.T, x *pair, n int64){
		func(t *testing.T, x *pair, n int64) { x.feed(t, pass(2*n)) },
		func(t *testing.T, x *pair, n int64) { x.feed(t, cpu(n+1, n), pass(n+4)) },
		func(t *testing.T, x *pair, n int64) { x.step(t, 1) },
		func(t *testing.T, x *pair, n int64) { x.step(t, 2) },
		func(t *testing.T, x *pair, n int64) { x.run(t, 0, 1, int(n)) },
		func(t *testing.T, x *pair, n int64) { x.take(t, 2) },
		func(t *testing.T, x *pair, n int64) { x.drain(t) },
	}
	for _, s := range []string{"every 2: sum(cpu[3]) * 2", "every 1: sum(cpu[3]) + on () sum(cpu[3])"} {
		p, _ := planOf(t, s)
		for room := 1; room <= 3; room++ {
			for list := range 7 * 7 * 7 * 7 * 7 {
				f, _ := flow.New(p, []int{2}, 0, room)
				x := &pair{f, newReference(t, p, []int{2}, 0, room)}
				for n := range int64(5) {
					calls[list%7](t, x, n)
					list /= 7
				}
				x.check(t)
			}
		}
	}
}

// P21.2, P21.3: calls that look like chance, of plans that do.
func TestChance(t *testing.T) {
	d, steps, batches := dice(2), 0, 0
	for range 150 {
		p := d.plan(1 + d.of(12))
		x := made(t, p, d.taps(p), int64(d.of(6)), 1+d.of(6))
		time := int64(0)
		for range 40 {
			switch d.of(6) {
			case 0, 1:
				var l []api.Item
				for range d.of(4) {
					time += int64(d.of(3))
					l = append(l, d.item(time))
				}
				x.feed(t, l...)
			case 2:
				node := 1 + d.of(len(p))
				if x.step(t, node) {
					steps++
				}
			case 3:
				steps += x.run(t, d.of(20)-10, d.of(20)-10, d.of(20)-10, d.of(20)-10)
			case 4:
				if d.of(3) == 0 {
					steps += x.drain(t)
				}
			case 5:
				if _, e := x.take(t, 1+d.of(len(p))); e == api.OK {
					batches++
				}
			}
			x.check(t)
		}
	}
	if steps < 3000 || batches < 100 {
		t.Errorf("only %d steps and %d batches", steps, batches)
	}
}

// A life is what is fed, and what follows from it.
type life struct {
	plan  []api.Node
	mark  int64
	items []api.Item
}

// life returns samples and passes that look like chance, some of them late, that
// end with a pass.
func (d *dice) life(n int) life {
	x := life{plan: d.plan(1 + d.of(10)), mark: int64(d.of(8))}
	time := x.mark
	for range n {
		x.items = append(x.items, d.item(time))
		time += int64(d.of(3))
	}
	x.items = append(x.items, pass(time+20))
	return x
}

// store returns the samples that are neither late nor before one of their series,
// and the time up to which all was passed.
func (x life) store() (l []api.Sample, passed int64) {
	passed = x.mark
	last := map[string]int64{}
	for _, i := range x.items {
		key := sample.Key(i.Sample.Series)
		switch {
		case i.Kind == api.ItemPass:
			passed = max(passed, i.Time)
		case i.Sample.Time > max(passed, last[key]):
			l, last[key] = append(l, i.Sample), i.Sample.Time
		}
	}
	return l, passed
}

// follows returns the batches that follow from batch.Eval of all samples, or false
// if the node is that of no query.
func (x life) follows(t *testing.T, node int) (l []api.Batch, is bool) {
	t.Helper()
	q, e := plan.Query(x.plan, node)
	if e != api.OK {
		return nil, false
	}
	store, passed := x.store()
	var v []api.Result
	for time := int64(1); time <= passed; time++ {
		if time <= x.mark || time%q.Every != 0 {
			continue
		}
		next, e := batch.Eval(q.Expr, store, time)
		if e != api.OK {
			t.Fatal(e)
		}
		l, v = append(l, at(time, group.Changes(v, next)...)), next
	}
	return l, true
}

// play feeds everything, with picks, feeds and takes that look like chance, until
// the flow is idle, and returns the batches of each tap.
func (x life) play(t *testing.T, d *dice, taps []int, room int) map[int][]api.Batch {
	t.Helper()
	f, e := flow.New(x.plan, taps, x.mark, room)
	if e != api.OK {
		t.Fatal(e)
	}
	got, items := map[int][]api.Batch{}, x.items
	style := d.of(4)
	for len(items) > 0 || !f.Idle() {
		n := min(1+d.of(room), len(items))
		if f.Feed(items[:n]...) == api.OK {
			items = items[n:]
		}
		switch {
		case style == 0:
			f.Drain()
		case style == 1:
			f.Step(1 + d.of(len(x.plan)))
		default:
			for range d.of(20) {
				f.Run([]int{d.of(2000) - 1000})
			}
		}
		x.bounded(t, f, room)
		if d.of(style+1) == 0 {
			collect(f, got, taps)
			x.alive(t, f)
		}
	}
	collect(f, got, taps)
	return got
}

// bounded checks that no queue, and no outlet, has more items than its room.
func (x life) bounded(t *testing.T, f *flow.Flow, room int) {
	t.Helper()
	for node := range x.plan {
		if len(f.Outlet(node+1)) > room || slices.Max(f.Queues(node+1)) > room {
			t.Fatalf("node %d has more than %d items", node+1, room)
		}
	}
}

// alive checks that some node can step, as the outlets were taken, unless the flow
// is idle.
func (x life) alive(t *testing.T, f *flow.Flow) {
	t.Helper()
	if !f.Idle() && !slices.ContainsFunc(all(x.plan), f.Can) {
		t.Fatal("no node can step")
	}
}

// collect takes all batches of the taps.
func collect(f *flow.Flow, got map[int][]api.Batch, taps []int) {
	for _, tap := range taps {
		for len(f.Outlet(tap)) > 0 {
			b, _ := f.Take(tap)
			got[tap] = append(got[tap], b)
		}
	}
}

// P21.4: whatever the picks, the room and the taps are, each node emits the same
// batches, and they follow from batch.Eval. Some node can always step.
func TestSameBatches(t *testing.T) {
	d, queries, changes := dice(3), 0, 0
	for range 150 {
		x := d.life(60)
		want := x.play(t, &d, all(x.plan), 4096)
		for node := range x.plan {
			l, is := x.follows(t, node+1)
			if !is {
				continue
			}
			queries++
			for _, b := range l {
				changes += len(b.Changes)
			}
			if dump(want[node+1]...) != dump(l...) {
				t.Fatalf("%v: node %d: %s, not %s", x.plan, node+1, short(dump(want[node+1]...)), short(dump(l...)))
			}
		}
		for range 6 {
			taps := d.taps(x.plan)
			got := x.play(t, &d, taps, pick(&d, 1, 1, 2, 3, 1+d.of(20)))
			for _, tap := range taps {
				if dump(got[tap]...) != dump(want[tap]...) {
					t.Fatalf("%v: node %d: %s, not %s", x.plan, tap, short(dump(got[tap]...)), short(dump(want[tap]...)))
				}
			}
		}
	}
	if queries < 500 || changes < 3000 {
		t.Errorf("only %d queries and %d changes", queries, changes)
	}
}

// A search visits all that a flow may become when it is fed items, steps and is
// emptied in every order.
type search struct {
	plan  []api.Node
	root  int
	room  int
	items []api.Item
	seen  map[string]int
	ends  map[string]int // what was emitted where nothing goes on
	steps int
}

// replay returns a flow after a list of steps: those of nodes, and 0, which feeds an
// item, if there is room, and takes all batches. It returns what was emitted, too, and
// all there is then as a text.
func (s *search) replay(path []int) (f *flow.Flow, emitted, state string) {
	f, _ = flow.New(s.plan, []int{s.root}, 0, s.room)
	got, items := map[int][]api.Batch{}, s.items
	for _, node := range path {
		if node > 0 {
			f.Step(node)
			continue
		}
		if len(items) > 0 && f.Feed(items[0]) == api.OK {
			items = items[1:]
		}
		collect(f, got, []int{s.root})
	}
	emitted = dump(got[s.root]...)
	state = fmt.Sprintf("%d items; %s; %s", len(items), emitted, dump(f.Outlet(s.root)...))
	for _, node := range all(s.plan) {
		state += fmt.Sprintf("%d %q; ", f.Queues(node), f.Oper(node))
	}
	return f, emitted, state
}

// visit goes on with each step after a list of steps.
func (s *search) visit(path []int) {
	f, emitted, state := s.replay(path)
	if s.seen[state]++; s.seen[state] > 1 {
		return
	}
	end := true
	for node := range len(s.plan) + 1 {
		next := append(path[:len(path):len(path)], node)
		if _, _, then := s.replay(next); then != state {
			end = false
			s.steps++
			s.visit(next)
		} else if f.Can(node) {
			s.ends["a node that can step does not"]++
		}
	}
	if end {
		s.ends[fmt.Sprintf("idle %t: %s", f.Idle(), emitted)]++
	}
}

// P21.4: all orders of steps of a small flow lead to the same batches.
func TestAllPicks(t *testing.T) {
	p, roots := planOf(t, "every 2: (sum(cpu[3]) * 2) - on (a) sum(cpu[3])")
	items := []api.Item{cpu(1, 5, "a", "x"), pass(2), cpu(3, 7, "a", "x"), pass(7)}
	want := "idle true: " + dump(at(2, put(5, "a", "x")), at(4, put(7, "a", "x")), at(6, gone("a", "x")))
	for room := 1; room <= 3; room++ {
		s := &search{plan: p, root: roots[0], room: room, items: items, seen: map[string]int{}, ends: map[string]int{}}
		s.visit(nil)
		if len(s.ends) != 1 || s.ends[want] == 0 || s.steps < 50 {
			t.Errorf("room %d, %d steps: %v", room, s.steps, slices.Collect(maps.Keys(s.ends)))
		}
	}
}

// T4: the flow of a query has its result, also where it is over, for many texts.
func TestQueries(t *testing.T) {
	d, overs := dice(5), 0
	for _, s := range []string{
		"every 5: sum(cpu[10])", "every 3: total by (a) (last(cpu[4])) > 3", "every 2: max(cpu[7]) - on (a) min(cpu{b=\"\"}[3])",
		"every 4: sum(cpu[5]) + on (a, b) sum(cpu[5])", "every 1: most by (a) (count(cpu[3])) * on (a) many by (a, b) (increase(cpu[9]) != 0) - 7",
		"every 7: least by (b) (sum(cpu[7]) * 4611686018427387904) + on () total by () (max(cpu{a!=\"x\"}[2]))",
	} {
		p, roots := planOf(t, s)
		for range 60 {
			x := life{plan: p, mark: int64(d.of(9))}
			time := x.mark
			for range 60 {
				x.items = append(x.items, d.item(time))
				time += int64(d.of(3))
			}
			want, _ := x.follows(t, roots[0])
			got := x.play(t, &d, roots, 1+d.of(9))[roots[0]]
			if dump(got...) != dump(want...) {
				t.Fatalf("%s: %s, not %s", s, short(dump(got...)), short(dump(want...)))
			}
			for _, b := range got {
				for _, c := range b.Changes {
					if c.Over {
						overs++
					}
				}
			}
		}
	}
	if overs < 50 {
		t.Errorf("only %d values are over", overs)
	}
}

// live makes calls that look like chance, and returns what they return as a text.
func (x *pair) live(t *testing.T, d *dice, time int64) string {
	t.Helper()
	e, n := x.feed(t, d.item(time), d.item(time)), x.run(t, d.of(9), d.of(9), d.of(9))
	if d.of(2) == 0 {
		n += x.drain(t)
	}
	b, f := x.take(t, 1+d.of(len(x.r.nodes)))
	return fmt.Sprint(e, n, dump(b), f)
}

// T6: two flows do not depend on each other, and the same calls have the same
// results.
func TestApart(t *testing.T) {
	d := dice(8)
	for range 30 {
		p := d.plan(8)
		x, y := made(t, p, all(p), 0, 3), made(t, p, all(p), 0, 3)
		for time := range int64(30) {
			same := d
			first := x.live(t, &d, time)
			y.check(t)
			if second := y.live(t, &same, time); first != second {
				t.Fatalf("the same calls have other results: %s, %s", first, second)
			}
			x.check(t)
		}
	}
}

// P21.2: the greatest plan, with a leaf that feeds all others, and one after the
// other.
func TestGreatPlans(t *testing.T) {
	wide, deep := windows(1), windows(1)
	for n := range int64(999) {
		x := api.Node{Every: 5, Expr: api.Expr{Kind: api.ExScale, Op: api.OpAdd, Num: n}, In: []int{1}}
		wide = append(wide, x)
		x.In = []int{int(n) + 1}
		deep = append(deep, x)
	}
	for i, p := range [][]api.Node{wide, deep} {
		for _, room := range []int{1, 50} {
			f, e := flow.New(p, []int{1000}, 0, room)
			if e != api.OK {
				t.Fatal(e)
			}
			var l []api.Batch
			for _, item := range []api.Item{cpu(50, 1), pass(100)} {
				if e := f.Feed(item); e != api.OK {
					t.Fatal(e)
				}
				for n := 1; n > 0; {
					n = f.Drain()
					for len(f.Outlet(1000)) > 0 {
						b, _ := f.Take(1000)
						l = append(l, b)
					}
				}
			}
			want := []int64{1 + 998, 1 + 998*999/2}[i]
			if !f.Idle() || len(l) != 20 || dump(l[9]) != dump(at(50, put(want))) || dump(l[10]) != dump(at(55, gone())) {
				t.Errorf("room %d: %s", room, short(dump(l...)))
			}
		}
	}
}
