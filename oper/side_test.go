package oper_test

import (
	"math"
	"slices"
	"strings"
	"testing"

	"waterwheel/api"
	"waterwheel/sample"
)

// wantTake checks the error of Take, given by hand, and that it has no effect.
func (x *pair) wantTake(t *testing.T, side int, b api.Batch, want api.Errno) {
	t.Helper()
	before := string(x.o.Bytes())
	if l, e := x.o.Take(side, b); e != want || len(l) != 0 {
		t.Errorf("%s at %d: take of %d, %s: %d batches, error %d, not %d", dumpNode(x.r.node), x.r.told, side, short(b), len(l), e, want)
	}
	if string(x.o.Bytes()) != before {
		t.Errorf("%s: take of %d, %s has an effect", dumpNode(x.r.node), side, short(b))
	}
	x.check(t)
}

// P18.3: an operator with one side emits each batch at once.
func TestOneSide(t *testing.T) {
	first := at(5, put(2, "a", "x", "b", "1"), put(-3, "a", "y"), put(4, "a", "x"))
	for _, c := range []struct {
		n    api.Node
		want []api.Batch
	}{
		{grouped(5, api.GrTotal, "a"), []api.Batch{at(5, put(6, "a", "x"), put(-3, "a", "y")), at(10, put(7), put(2, "a", "x"), putOver("a", "y")), at(15), at(20, gone("a", "x"))}},
		{grouped(5, api.GrMany), []api.Batch{at(5, put(3)), at(10), at(15), at(20, put(2))}},
		{grouped(5, api.GrLeast), []api.Batch{at(5, put(-3)), at(10, putOver()), at(15), at(20)}},
		{grouped(5, api.GrMost, "b"), []api.Batch{at(5, put(4), put(2, "b", "1")), at(10, putOver()), at(15), at(20, gone("b", "1"))}},
		{scaled(5, api.OpMul, -2), []api.Batch{
			at(5, put(-8, "a", "x"), put(-4, "a", "x", "b", "1"), put(6, "a", "y")), at(10, put(-14), gone("a", "x"), putOver("a", "y")),
			at(15), at(20, gone("a", "x", "b", "1")),
		}},
		{scaled(5, api.OpSub, 3), []api.Batch{
			at(5, put(1, "a", "x"), put(-1, "a", "x", "b", "1"), put(-6, "a", "y")), at(10, put(4), gone("a", "x"), putOver("a", "y")),
			at(15), at(20, gone("a", "x", "b", "1")),
		}},
		{filtered(5, api.OpMore, 1), []api.Batch{at(5, put(4, "a", "x"), put(2, "a", "x", "b", "1")), at(10, put(7), gone("a", "x")), at(15), at(20, gone("a", "x", "b", "1"))}},
		{filtered(5, api.OpNe, 2), []api.Batch{at(5, put(4, "a", "x"), put(-3, "a", "y")), at(10, put(7), gone("a", "x"), gone("a", "y")), at(15), at(20)}},
	} {
		x := made(t, c.n, 3)
		var got []api.Batch
		for _, b := range []api.Batch{
			first, at(10, gone("a", "x"), putOver("a", "y"), put(7)), at(15, gone("c", "x"), put(7)), at(20, gone("a", "x", "b", "1")),
		} {
			got = append(got, x.take(t, 1, b)...)
			x.check(t)
			if x.o.Waits(1) != 0 || x.o.Told() != b.Time {
				t.Errorf("%d batches wait, told %d", x.o.Waits(1), x.o.Told())
			}
		}
		wantBatches(t, got, c.want...)
	}
}

// P18.3: a join emits when both sides have a batch, at most one at once.
func TestTwoSides(t *testing.T) {
	x := made(t, joined(2, api.OpSub, "a"), 0)
	wantBatches(t, x.take(t, 1, at(2, put(5, "a", "x", "b", "1"))))
	wantBatches(t, x.take(t, 1, at(4, put(9, "a", "x", "b", "2"))))
	wantBatches(t, x.take(t, 1, at(6, gone("a", "x", "b", "1"))))
	x.check(t)
	if x.o.Waits(1) != 3 || x.o.Waits(2) != 0 || x.o.Told() != 0 || len(x.o.Vector()) != 0 {
		t.Errorf("%d and %d batches wait, told %d", x.o.Waits(1), x.o.Waits(2), x.o.Told())
	}
	wantBatches(t, x.take(t, 2, at(2, put(2, "a", "x"))), at(2, put(3, "a", "x")))
	x.wantVector(t, "{a=\"x\"} 3\n")
	if x.o.Waits(1) != 2 || x.o.Waits(2) != 0 || x.o.Told() != 2 {
		t.Errorf("%d and %d batches wait, told %d", x.o.Waits(1), x.o.Waits(2), x.o.Told())
	}
	wantBatches(t, x.take(t, 2, at(4)), at(4, gone("a", "x")))
	wantBatches(t, x.take(t, 2, at(6, put(1, "a", "x"))), at(6, put(8, "a", "x")))
	wantBatches(t, x.take(t, 2, at(8, put(0, "a", "x"))))
	wantBatches(t, x.take(t, 2, at(10, put(0, "a", "y"))))
	if x.o.Waits(1) != 0 || x.o.Waits(2) != 2 || x.o.Told() != 6 {
		t.Errorf("%d and %d batches wait, told %d", x.o.Waits(1), x.o.Waits(2), x.o.Told())
	}
	x.wantVector(t, "{a=\"x\"} 8\n")
	x.again(t)
	wantBatches(t, x.take(t, 1, at(8)), at(8, put(9, "a", "x")))
	wantBatches(t, x.take(t, 1, at(10, put(4, "a", "y"))), at(10, put(4, "a", "y")))
	x.check(t)
	if x.o.Waits(1) != 0 || x.o.Waits(2) != 0 {
		t.Errorf("%d and %d batches wait", x.o.Waits(1), x.o.Waits(2))
	}
}

// badChanges has changes that are not valid.
func badChanges() (l []api.Change) {
	for _, labels := range [][]api.Label{
		list("a", ""), list("A", "x"), list("", "x"), list("b", "x", "a", "x"), list("a", "x", "a", "x"), list("a", strings.Repeat("x", 65)),
		append(eight(), api.Label{Name: "i", Text: "x"}), make([]api.Label, 100),
	} {
		l = append(l, api.Change{Labels: labels}, api.Change{Labels: labels, Gone: true})
	}
	return append(l, api.Change{Value: api.Value{N: 1, Over: true}}, api.Change{Value: api.Value{N: 1}, Gone: true}, api.Change{Value: api.Value{Over: true}, Gone: true},
		api.Change{Value: api.Value{N: -1, Over: true}, Gone: true})
}

// P18.3: the errors of Take, and which one comes first.
func TestTakeErrors(t *testing.T) {
	good := at(5, put(1))
	for _, n := range append(others(5), leaf(5, api.FnSum, 10)) {
		x := made(t, n, 3)
		isLeaf, wrong := len(n.In) == 0, api.ErrArg
		if isLeaf {
			wrong = api.ErrState
		}
		for _, side := range []int{math.MinInt, -1, 0, len(n.In) + 1, len(n.In) + 2, 1 << 32, 1<<32 + 1, math.MaxInt} {
			for _, b := range []api.Batch{good, at(5), at(7), {}} {
				x.wantTake(t, side, b, wrong)
			}
		}
		for side := 1; side <= 2; side++ {
			for _, c := range badChanges() {
				for _, b := range []api.Batch{at(5, c), at(5, put(1), gone("a", "x"), c, put(1)), at(10, c), at(0, c)} {
					x.wantTake(t, side, b, wrong)
				}
			}
		}
		for side := 1; side <= max(len(n.In), 1); side++ {
			for _, time := range []int64{math.MinInt64, -5, -1, 0, 1, 3, 4, 6, 10, 1 << 40, math.MaxInt64} {
				x.wantTake(t, side, at(time), api.ErrState)
				x.wantTake(t, side, at(time, put(1)), api.ErrState)
			}
		}
		if isLeaf {
			x.wantTake(t, 1, good, api.ErrState)
			continue
		}
		x.take(t, 1, good)
		x.check(t)
		for _, time := range []int64{0, 3, 5, 9, 11, 15} {
			x.wantTake(t, 1, at(time, put(2)), api.ErrState)
		}
		x.take(t, 1, at(10, put(2)))
		x.check(t)
	}
}

// P18.3: the next time of a side is that after its own batches, whatever the other
// side has.
func TestNextOfSide(t *testing.T) {
	for _, mark := range []int64{0, 1, 6, 7, 8, 13, 14} {
		x := made(t, joined(7, api.OpAdd), mark)
		first := mark - mark%7 + 7
		for i := range int64(3) {
			for _, time := range []int64{first + 7*i - 7, first + 7*i - 1, first + 7*i + 1, first + 7*i + 7, mark, mark + 1} {
				if time != first+7*i {
					x.wantTake(t, 1, at(time), api.ErrState)
				}
				if time != first {
					x.wantTake(t, 2, at(time), api.ErrState)
				}
			}
			x.take(t, 1, at(first+7*i))
		}
		for i := range int64(5) {
			if i > 0 {
				x.wantTake(t, 2, at(first+7*i-7), api.ErrState)
			}
			x.wantTake(t, 2, at(first+7*i+7), api.ErrState)
			x.take(t, 2, at(first+7*i))
			x.check(t)
		}
		x.wantTake(t, 1, at(first+14), api.ErrState)
		x.wantTake(t, 1, at(first+28), api.ErrState)
		x.take(t, 1, at(first+21))
		x.check(t)
	}
}

// P18.3: at the end of all times no batch can come any more.
func TestTakeEnd(t *testing.T) {
	const end = 1 << 40
	for _, every := range []int64{1, 3, 1<<30 - 1, 1 << 30} {
		last := end - end%every
		for _, n := range []api.Node{joined(every, api.OpAdd), scaled(every, api.OpAdd, 1)} {
			x := made(t, n, last-2*every)
			x.take(t, 1, at(last-every, put(1)))
			x.take(t, 1, at(last, put(2)))
			for _, time := range []int64{0, last, last + 1, last + every, end, end + 1} {
				x.wantTake(t, 1, at(time), api.ErrState)
			}
			x.take(t, len(n.In), at(last-every, put(3)))
			x.take(t, len(n.In), at(last, put(4)))
			x.check(t)
			for side := range len(n.In) {
				x.wantTake(t, side+1, at(last), api.ErrState)
				x.wantTake(t, side+1, at(last+every), api.ErrState)
			}
			x.again(t)
			x.check(t)
			x = made(t, n, end)
			x.wantTake(t, 1, at(end), api.ErrState)
			x.wantTake(t, 1, at(last), api.ErrState)
		}
	}
}

// P18.3: as many batches as may wait on a side, and more.
func TestMaxTimes(t *testing.T) {
	for side := 1; side <= 2; side++ {
		other := 3 - side
		x := made(t, joined(3, api.OpMul), 1)
		for i := range int64(1000) {
			if l, e := x.o.Take(side, at(3+3*i, put(i))); len(l) != 0 || e != api.OK || x.o.Waits(side) != int(i+1) {
				t.Fatalf("%d: %v, error %d, %d batches wait", i, l, e, x.o.Waits(side))
			}
			x.r.sides[side-1].waits = append(x.r.sides[side-1].waits, at(3+3*i, put(i)))
		}
		x.check(t)
		x.wantTake(t, side, at(3003, put(5)), api.ErrLong)
		x.wantTake(t, side, at(3003), api.ErrLong)
		x.wantTake(t, side, at(3000), api.ErrState)
		x.wantTake(t, side, at(3006), api.ErrState)
		x.wantTake(t, side, at(3003, badChanges()[0]), api.ErrArg)
		x.again(t)
		x.wantTake(t, side, at(3003), api.ErrLong)
		wantBatches(t, x.take(t, other, at(3, put(7))), at(3, put(0)))
		if n := x.o.Waits(side); n != 999 {
			t.Errorf("%d batches wait", n)
		}
		x.take(t, side, at(3003, put(5)))
		x.check(t)
		x.wantTake(t, side, at(3006), api.ErrLong)
		wantBatches(t, x.take(t, other, at(6)), at(6, put(7)))
		x.check(t)
		for i := int64(2); i <= 1000; i++ {
			if l, e := x.o.Take(other, at(3+3*i)); e != api.OK || len(l) != 1 || l[0].Time != 3+3*i || x.o.Waits(side) != 1000-int(i) {
				t.Fatalf("%d: %v, error %d, %d batches wait", i, l, e, x.o.Waits(side))
			}
		}
		if got := sample.Lines(x.o.Vector()); got != "{} 35\n" {
			t.Errorf("vector %q", got)
		}
	}
}

// P18.3: as many results of a side as there may be, and more, also of the results
// that there would be after batches that wait.
func TestMaxVector(t *testing.T) {
	all := refChanges(nil, many(4096))
	for _, n := range []api.Node{grouped(5, api.GrMany, "b"), joined(5, api.OpAdd, "a"), scaled(5, api.OpMul, 3), filtered(5, api.OpLess, 5)} {
		x := made(t, n, 0)
		x.wantTake(t, 1, at(5, refChanges(nil, many(4097))...), api.ErrLong)
		x.wantTake(t, 1, at(6, refChanges(nil, many(4097))...), api.ErrState)
		x.take(t, 1, at(5, slices.Concat(all, all)...))
		x.check(t)
		x.wantTake(t, 1, at(10, put(1)), api.ErrLong)
		x.wantTake(t, 1, at(10, gone("a", "x"), put(1)), api.ErrLong)
		x.wantTake(t, 1, at(5, put(1)), api.ErrState)
		x.wantTake(t, 1, at(10, put(1), badChanges()[0]), api.ErrArg)
		// What counts is how many there are after all changes.
		x.take(t, 1, at(10, put(1), api.Change{Labels: all[9].Labels, Gone: true}))
		x.wantTake(t, 1, at(15, api.Change{Labels: all[9].Labels}), api.ErrLong)
		x.take(t, 1, at(15, api.Change{Labels: all[9].Labels}, gone()))
		x.check(t)
		x.take(t, 1, at(20, all[:4000]...))
		x.wantTake(t, 1, at(25, put(1, "c", "x")), api.ErrLong)
		x.again(t)
		x.wantTake(t, 1, at(25, put(1, "c", "x")), api.ErrLong)
		x.take(t, 1, at(25, refChanges(many(4096), many(10))...))
		x.take(t, 1, at(30, put(1, "c", "x")))
		x.check(t)
	}
	x := made(t, joined(5, api.OpAdd, "a"), 0)
	x.take(t, 1, at(5, all[:4095]...))
	x.take(t, 1, at(10, put(1)))
	x.wantTake(t, 1, at(15, put(2, "c", "x")), api.ErrLong)
	x.take(t, 2, at(5, all...))
	x.take(t, 2, at(10))
	x.wantTake(t, 2, at(15, put(2, "c", "x")), api.ErrLong)
	x.wantTake(t, 1, at(15, put(2, "c", "x")), api.ErrLong)
	x.take(t, 1, at(15, gone()))
	x.take(t, 1, at(20, put(2, "c", "x")))
	x.check(t)
}

// P18.3: a batch is kept as it came: with changes in any order, of the same labels
// several times, and those that change nothing.
func TestBatchAsItCame(t *testing.T) {
	x := made(t, joined(5, api.OpAdd, "a"), 0)
	x.take(t, 1, at(5, put(1, "b", "x"), putOver("a", "x"), put(2, "a", "x"), gone("c", "x"), gone("b", "x"), put(3), gone(), put(4)))
	x.take(t, 1, at(10, gone("z", "z"), put(2, "a", "x"), put(2, "a", "x")))
	x.take(t, 1, at(15))
	x.check(t)
	x.again(t)
	x.check(t)
	wantBatches(t, x.take(t, 2, at(5, put(10, "a", "x"), put(20))), at(5, put(24), put(12, "a", "x")))
	wantBatches(t, x.take(t, 2, at(10)), at(10))
	x.check(t)
}
