package flow_test

import (
	"fmt"
	"math"
	"testing"

	"waterwheel/api"
)

// wantCan checks which nodes can step.
func (x *pair) wantCan(t *testing.T, want ...bool) {
	t.Helper()
	for i, is := range want {
		if x.f.Can(i+1) != is {
			t.Errorf("node %d can step: %t", i+1, !is)
		}
	}
}

// P21.2: a leaf takes samples, and drops those that it does not take, and those that
// are late. There is always room for these.
func TestLeafSamples(t *testing.T) {
	p, _ := planOf(t, "every 5: sum(cpu{a=\"x\"}[10])")
	x := made(t, p, []int{1}, 2, 1)
	x.feed(t, pass(5))
	x.run(t, 0)
	x.wantBatches(t, 1, at(5))
	x.feed(t, pass(10))
	x.run(t, 0)
	before := string(x.f.Oper(1))
	for _, i := range []api.Item{
		cpu(12, 1), cpu(12, 1, "a", "y"), cpu(12, 1, "b", "x"), from("mem", 12, 1, "a", "x"), cpu(10, 1, "a", "x"), cpu(1, 1, "a", "x"), cpu(4, 1),
	} {
		if x.feed(t, i) != api.OK || !x.step(t, 1) || string(x.f.Oper(1)) != before {
			t.Errorf("%v is not dropped", i)
		}
		x.wantQueues(t, 0)
	}
	for n, i := range []api.Item{cpu(11, 3, "a", "x"), cpu(12, 4, "a", "x", "b", "x"), cpu(13, 5, "a", "x"), cpu(1<<40, math.MinInt64, "a", "x")} {
		before := string(x.f.Oper(1))
		if x.feed(t, i) != api.OK || !x.step(t, 1) || string(x.f.Oper(1)) == before {
			t.Errorf("sample %d is not taken", n)
		}
		x.wantQueues(t, 0)
	}
	before = string(x.f.Oper(1))
	for _, i := range []api.Item{cpu(11, 3, "a", "x"), cpu(13, 5, "a", "x"), cpu(14, 5, "a", "x")} {
		if x.feed(t, i); !x.step(t, 1) || string(x.f.Oper(1)) != before {
			t.Errorf("%v is not dropped", i)
		}
	}
	x.wantBatches(t, 1, at(10))
	x.feed(t, pass(16))
	x.step(t, 1)
	x.wantBatches(t, 1, at(15, put(8, "a", "x"), put(4, "a", "x", "b", "x")))
}

// P21.2: a pass for which nothing is emitted needs no room; one that is not after
// what the leaf has emitted is dropped.
func TestLeafPassesNothing(t *testing.T) {
	p, _ := planOf(t, "every 5: sum(cpu[10]) * 2")
	for _, taps := range [][]int{nil, {1}} {
		x := made(t, p, taps, 3, 1)
		for _, time := range []int64{0, 1, 2, 3, 4, 3, 4} {
			x.feed(t, pass(time))
			x.wantCan(t, true, false)
			x.step(t, 1)
			x.wantQueues(t, 0, 0)
			if told := max(time, x.f.Told(1)); x.f.Told(1) != told {
				t.Errorf("told %d", x.f.Told(1))
			}
		}
		x.feed(t, pass(6))
		x.step(t, 1)
		// There is no room now.
		for _, time := range []int64{0, 5, 6, 7, 9, 8, 9} {
			x.feed(t, pass(time))
			x.wantQueues(t, 1, 1)
			x.wantCan(t, true, true)
			x.step(t, 1)
			x.wantQueues(t, 0, 1)
		}
		if x.f.Told(1) != 9 {
			t.Errorf("told %d", x.f.Told(1))
		}
		x.feed(t, pass(10))
		x.wantCan(t, false, true)
		if x.step(t, 1) {
			t.Error("a step without room")
		}
		x.wantQueues(t, 1, 1)
		x.step(t, 2)
		x.wantCan(t, len(taps) == 0, false)
		x.take(t, 1)
		x.wantCan(t, true, false)
		x.step(t, 1)
		x.wantQueues(t, 0, 1)
	}
}

// P21.2: a pass is processed in part, up to the last batch for which there is room,
// for each room, number of batches that are there, and time.
func TestLeafPassesInPart(t *testing.T) {
	p, _ := planOf(t, "every 5: sum(cpu[10]) * 2")
	for room := 1; room <= 5; room++ {
		for there := range room + 1 {
			for time := int64(5 * there); time <= 45; time++ {
				x := made(t, p, nil, 0, room)
				x.feed(t, pass(int64(5*there)))
				x.step(t, 1)
				x.feed(t, pass(time))
				count, told, left := int(time/5)-there, time, 0
				if count > room-there {
					count, told, left = room-there, int64(5*room), 1
				}
				if did := x.step(t, 1); did != (count > 0 || left == 0) {
					t.Fatalf("room %d: pass of %d: %t", room-there, time, did)
				}
				if x.f.Told(1) != told {
					t.Fatalf("room %d: pass of %d: told %d", room-there, time, x.f.Told(1))
				}
				x.wantQueues(t, left, there+count)
			}
		}
	}
}

// P21.2: what is behind a pass that is processed in part waits.
func TestBehindPart(t *testing.T) {
	p, _ := planOf(t, "every 5: last(cpu[5])")
	x := made(t, p, []int{1}, 0, 3)
	x.feed(t, cpu(3, 1), pass(24), cpu(26, 2))
	x.drain(t)
	x.wantQueues(t, 2)
	x.feed(t, pass(26))
	x.wantBatches(t, 1, at(5, put(1)), at(10, gone()), at(15))
	x.step(t, 1)
	x.wantQueues(t, 2)
	if x.f.Told(1) != 24 {
		t.Errorf("told %d", x.f.Told(1))
	}
	x.drain(t)
	x.wantBatches(t, 1, at(20), at(25))
	x.feed(t, pass(30))
	x.drain(t)
	x.wantBatches(t, 1, at(30, put(2)))
}

// P21.2: there is room only if all queues, and the outlet, have it.
func TestLeastRoom(t *testing.T) {
	p, _ := planOf(t, "every 5: sum(cpu[10]) * 2", "every 5: sum(cpu[10]) * 3")
	for rooms := range 4 * 4 * 4 {
		x := made(t, p, []int{1}, 0, 3)
		x.feed(t, pass(15))
		x.step(t, 1)
		x.feed(t, pass(100))
		room2, room3, room := rooms%4, rooms/4%4, rooms/16
		for range room2 {
			x.step(t, 2)
		}
		for range room3 {
			x.step(t, 3)
		}
		for range room {
			x.take(t, 1)
		}
		least := min(room2, room3, room)
		x.wantCan(t, least > 0, room2 < 3, room3 < 3)
		x.step(t, 1)
		x.wantQueues(t, 1, 3-room2+least, 3-room3+least)
		if n := len(x.f.Outlet(1)); n != 3-room+least || x.f.Told(1) != int64(15+5*least) {
			t.Errorf("%d batches, told %d", n, x.f.Told(1))
		}
	}
}

// P21.2: a node that is fed twice by one gets each batch on both sides, and takes
// from the first one as long as it can.
func TestFedTwice(t *testing.T) {
	p, _ := planOf(t, "every 5: sum(cpu[10]) + on (a) sum(cpu[10])")
	x := made(t, p, []int{2}, 0, 3)
	x.feed(t, cpu(3, 2, "a", "x", "b", "y"), pass(11))
	x.wantCan(t, true, false)
	x.run(t, 0, 0)
	x.wantQueues(t, 0, 2, 2)
	for _, want := range [][]int{{0, 1, 2}, {0, 0, 2}, {0, 0, 1}, {0, 0, 0}} {
		x.wantCan(t, false, true)
		x.step(t, 2)
		x.wantQueues(t, want...)
	}
	x.wantCan(t, false, false)
	x.wantBatches(t, 2, at(5, put(4, "a", "x")), at(10))
}

// P21.2: a node that emits only when all of its sides have a batch needs room only
// then; a side for which there is no room does not hold up the other one.
func TestJoinRoom(t *testing.T) {
	p, _ := planOf(t, "every 5: sum(cpu[10]) + on () sum(mem[10])")
	x := made(t, p, []int{3}, 0, 2)
	x.feed(t, cpu(1, 1), pass(10))
	x.run(t, 0, 0, 1, 1, 2, 2, 2, 2)
	x.wantQueues(t, 0, 0, 0, 0)
	// The outlet is full now.
	x.feed(t, pass(20))
	x.run(t, 1)
	x.wantQueues(t, 1, 0, 0, 2)
	x.wantCan(t, true, false, true)
	x.step(t, 3)
	x.wantQueues(t, 1, 0, 0, 1)
	x.step(t, 1)
	x.wantQueues(t, 0, 0, 2, 1)
	// Side 1 would emit. Side 2 goes on alone.
	x.wantCan(t, false, false, true)
	x.step(t, 3)
	x.wantQueues(t, 0, 0, 2, 0)
	x.wantCan(t, false, false, false)
	if x.run(t, 0, 1, 2) != 0 || x.drain(t) != 0 {
		t.Error("a step without room")
	}
	x.take(t, 3)
	x.wantCan(t, false, false, true)
	x.step(t, 3)
	x.wantQueues(t, 0, 0, 1, 0)
	x.wantCan(t, false, false, false)
	x.wantBatches(t, 3, at(10), at(15))
	x.drain(t)
	x.wantBatches(t, 3, at(20))
}

// P21.2: a node that is no leaf, with one side, needs room for each batch.
func TestOtherRoom(t *testing.T) {
	for _, s := range []string{"sum(cpu[10]) * 2", "sum(cpu[10]) > 1", "total by () (sum(cpu[10]))"} {
		p, _ := planOf(t, "every 5: ("+s+") + 1")
		x := made(t, p, []int{2}, 0, 2)
		x.feed(t, pass(15))
		x.run(t, 0, 1, 1)
		x.wantQueues(t, 1, 0, 2)
		x.step(t, 1)
		x.wantQueues(t, 0, 1, 2)
		x.wantCan(t, false, false, true)
		x.take(t, 2)
		x.wantCan(t, false, false, true)
		x.step(t, 3)
		x.wantCan(t, false, true, true)
		x.step(t, 2)
		x.wantQueues(t, 0, 0, 2)
	}
}

// P21.2: more than MaxTimes batches are not emitted at once, also if there is room.
func TestMaxTimesOfLeaf(t *testing.T) {
	for _, s := range []string{"every 1: sum(cpu[1])", "every 7: sum(cpu[1])", "every 1073741824: sum(cpu[1])"} {
		p, _ := planOf(t, s)
		every := p[0].Every
		for _, room := range []int{999, 1000, 1001, 1023, 1024, 4096} {
			for _, count := range []int64{998, 999, 1000, 1001, 1023, 1024} {
				x := made(t, p, []int{1}, 0, room)
				x.feed(t, pass(count*every))
				x.step(t, 1)
				emitted := min(count, 1000, int64(room))
				left := 0
				if emitted < count {
					left = 1
				}
				x.wantQueues(t, left)
				if n := len(x.f.Outlet(1)); int64(n) != emitted || x.f.Told(1) != emitted*every {
					t.Errorf("%s: %d batches up to %d", s, n, x.f.Told(1))
				}
				if x.f.Can(1) != (left == 1 && room > 1000) {
					t.Errorf("%s: room %d: can step %t", s, room, x.f.Can(1))
				}
				x.drain(t)
				x.check(t)
			}
		}
	}
	// A node that nobody needs has always room.
	p, _ := planOf(t, "every 1: sum(cpu[1])")
	x := made(t, p, nil, 5, 1)
	x.feed(t, pass(3007))
	for _, want := range []int64{1005, 2005, 3005, 3007} {
		if !x.step(t, 1) || x.f.Told(1) != want {
			t.Errorf("told %d, not %d", x.f.Told(1), want)
		}
	}
	x.wantQueues(t, 0)
}

// P21.2: the end of the times.
func TestEndOfTimes(t *testing.T) {
	for _, c := range []struct {
		text string
		mark int64
		want []int64
	}{
		{"every 1: sum(cpu[1])", 1<<40 - 2, []int64{1<<40 - 1, 1 << 40}},
		{"every 1: sum(cpu[1])", 1 << 40, nil},
		{"every 3: sum(cpu[1])", 1<<40 - 1, nil},
		{"every 3: sum(cpu[1])", 1<<40 - 2, []int64{1<<40 - 1}},
		{"every 1073741824: sum(cpu[1073741824])", 1<<40 - 1<<30, []int64{1 << 40}},
		{"every 1073741823: sum(cpu[1073741824])", 1<<40 - 1<<30, []int64{1024 * (1<<30 - 1)}},
		{"every 1073741823: sum(cpu[1073741824])", 1<<40 - 1024, nil},
	} {
		p, _ := planOf(t, c.text+" * 2")
		x := made(t, p, []int{2}, c.mark, 1)
		x.feed(t, cpu(1<<40, 1))
		x.drain(t)
		x.feed(t, pass(1<<40))
		for _, time := range c.want {
			x.drain(t)
			b, e := x.take(t, 2)
			if e != api.OK || b.Time != time {
				t.Errorf("%s: %d, not %d, error %d", c.text, b.Time, time, e)
			}
		}
		x.drain(t)
		if x.f.Told(1) != 1<<40 || !x.f.Idle() || len(x.f.Outlet(2)) != 0 {
			t.Errorf("%s: told %d, and %d batches", c.text, x.f.Told(1), len(x.f.Outlet(2)))
		}
		x.feed(t, pass(1<<40))
		if x.drain(t) != 1 || len(x.f.Outlet(2)) != 0 {
			t.Errorf("%s: a batch behind the end", c.text)
		}
		x.check(t)
	}
}

// P21.2: a batch waits if there would be more than MaxTimes of its side.
func TestMaxTimesOfJoin(t *testing.T) {
	p, _ := planOf(t, "every 1: sum(cpu[1]) + on () sum(mem[1])")
	for _, side := range []int{1, 2} {
		x := made(t, p, []int{3}, 0, 1500)
		x.f.Feed(pass(1700))
		other := 3 - side
		sizes := func(l, own, others int) {
			t.Helper()
			if n := x.f.Queues(side)[0]; n != l {
				t.Errorf("%d items of the leaf", n)
			}
			if q := x.f.Queues(3); q[side-1] != own || q[other-1] != others {
				t.Errorf("queues of %d", q)
			}
		}
		x.f.Step(side)
		x.f.Step(side)
		sizes(1, 1500, 0)
		for n := range 1000 {
			if is, e := x.f.Step(3); !is || e != api.OK {
				t.Fatalf("step %d: %t, error %d", n, is, e)
			}
		}
		sizes(1, 500, 0)
		if is, _ := x.f.Step(3); is || x.f.Can(3) || !x.f.Can(side) {
			t.Error("more batches than may wait are taken")
		}
		x.f.Step(side)
		sizes(0, 700, 0)
		x.f.Step(other)
		sizes(0, 700, 1000)
		// A batch of the other side makes room for one of this side.
		x.f.Step(3)
		sizes(0, 700, 999)
		x.f.Step(3)
		if side == 1 {
			sizes(0, 699, 999)
			x.f.Step(3)
			sizes(0, 699, 998)
		} else {
			sizes(0, 700, 998)
		}
		x.f.Drain()
		if n := len(x.f.Outlet(3)); n != 1500 {
			t.Errorf("%d batches", n)
		}
		for n := int64(1); n <= 1700; n++ {
			if b, e := x.f.Take(3); e != api.OK || dump(b) != dump(at(n)) {
				t.Fatalf("batch %d: %s, error %d", n, dump(b), e)
			}
			x.f.Drain()
		}
		if !x.f.Idle() || x.f.Told(3) != 1700 {
			t.Errorf("told %d", x.f.Told(3))
		}
	}
}

// P21.2: the two sides of a join through parts of unlike length, with the least room.
func TestLongSide(t *testing.T) {
	long := "sum(cpu[3])"
	for n := range 12 {
		long = fmt.Sprintf("(%s) + %d", long, n)
	}
	for s, want := range map[string]int64{"sum(cpu[3]) - on () (" + long + ")": -66, "(" + long + ") - on () sum(cpu[3])": 66} {
		p, roots := planOf(t, "every 1: "+s)
		x := made(t, p, roots, 0, 1)
		var l []api.Batch
		// advance drains, or, when there is nothing to drain, takes a batch.
		advance := func() {
			if x.drain(t) > 0 {
				return
			}
			b, e := x.take(t, roots[0])
			if e != api.OK {
				t.Fatal("nothing goes on")
			}
			l = append(l, b)
		}
		for n := int64(1); n <= 40; n++ {
			for _, i := range []api.Item{cpu(n, n), pass(n)} {
				for x.feed(t, i) != api.OK {
					advance()
				}
			}
		}
		for !x.f.Idle() || len(x.f.Outlet(roots[0])) > 0 {
			advance()
		}
		if len(l) != 40 || dump(l[0]) != dump(at(1, put(want))) || dump(l[1:]...) != dump(emptyBatches(2, 40)...) {
			t.Errorf("%d batches: %s", len(l), dump(l...))
		}
	}
}

// emptyBatches returns batches without changes.
func emptyBatches(from, to int64) (l []api.Batch) {
	for time := from; time <= to; time++ {
		l = append(l, at(time))
	}
	return l
}

// T4, P21.2: values that are over, and numbers again.
func TestOver(t *testing.T) {
	p, roots := planOf(t, "every 1: (sum(cpu[2]) * 2) + on () sum(cpu[1])")
	x := made(t, p, append(roots, 2), 0, 9)
	x.feed(t, cpu(1, 1<<61), cpu(2, 1<<61), cpu(3, 1), cpu(4, 2), pass(5))
	x.drain(t)
	x.wantBatches(t, 2, at(1, put(1<<62)), at(2, over()), at(3, put(1<<62+2)), at(4, put(6)), at(5, put(4)))
	x.wantBatches(t, roots[0], at(1, put(1<<62+1<<61)), at(2, over()), at(3, put(1<<62+3)), at(4, put(8)), at(5, gone()))
}
