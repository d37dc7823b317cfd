package slide_test

import (
	"testing"

	"waterwheel/api"
)

// step makes a call that looks like chance: mostly one that is possible.
func (x *pair) step(t *testing.T, d *dice, few, far int) {
	t.Helper()
	time := x.r.time + int64(d.of(far)) - int64(d.of(10)/8)
	if d.of(4) > 0 {
		x.push(t, time, d.number(few))
	} else {
		x.advance(t, time)
	}
}

// P14.3, P14.1, P14.2: calls that look like chance, with few numbers, with many
// and with those at the limits, against the reference and batch.Window.
func TestChance(t *testing.T) {
	for _, fn := range functions() {
		for _, span := range []int64{1, 2, 5, 30, 400} {
			for i, few := range []int{0, 1, 3, 20, 5000} {
				d, x := dice(1000*span+int64(few)), made(t, fn, span)
				for n := range 300 {
					far := 4
					// At times the window advances far, so that few points
					// are left.
					if n/50%3 == 2 {
						far = int(span)/2 + 4
					}
					x.step(t, &d, few, far)
					x.checkValue(t)
					if n%(5+i) == 0 {
						x.check(t)
					}
				}
			}
		}
	}
}

// P14.3: all lists of six calls: pushes of few numbers one or two times later,
// steps onward, and reads.
func TestEveryCall(t *testing.T) {
	calls := []func(x *pair){
		func(x *pair) { x.push(t, x.r.time+1, 0) },
		func(x *pair) { x.push(t, x.r.time+1, 2) },
		func(x *pair) { x.push(t, x.r.time+2, -1) },
		func(x *pair) { x.advance(t, x.r.time+1) },
		func(x *pair) { x.again(t) },
	}
	for _, fn := range functions() {
		for list := range 5 * 5 * 5 * 5 * 5 * 5 {
			x := made(t, fn, 3)
			for range 6 {
				calls[list%len(calls)](x)
				list /= len(calls)
			}
			x.check(t)
		}
	}
}

// P14.3: a slide that was read has the same results from then on, also if it was
// read again and again.
func TestReadContinues(t *testing.T) {
	for _, fn := range functions() {
		for _, span := range []int64{1, 4, 25} {
			for _, few := range []int{0, 3, 60} {
				d, x := dice(77*span+int64(few)), made(t, fn, span)
				for range 60 {
					for range d.of(12) {
						x.step(t, &d, few, 4)
					}
					once := &pair{read(t, string(x.s.Bytes())), x.r}
					once.check(t)
					same := d
					for range 15 {
						once.step(t, &d, few, 5)
						x.step(t, &same, few, 5)
						once.check(t)
						x.check(t)
					}
					if d.of(2) == 0 {
						x.again(t)
					}
				}
			}
		}
	}
}

// P14.2, P14.3: a great window, with the value after each point: numbers that
// only ascend or descend, or turn again and again.
func TestGreat(t *testing.T) {
	const span, n = 1 << 16, 1<<18 + 77
	rising := func(time int64) int64 { return time }
	for _, fn := range functions() {
		x, y := made(t, fn, span).s, made(t, fn, span).s
		for time := int64(1); time <= n; time++ {
			x.Push(time, rising(time))
			y.Push(time, -rising(time))
			first := max(time-span+1, 1)
			size := time - first + 1
			sum := (first + time) * size / 2
			up := []int64{0, sum, size, first, time, time, time - first}[fn]
			// Each number that descends has begun again at 0.
			down := []int64{0, -sum, size, -time, -first, -time, first - sum}[fn]
			if v, is := x.Value(); v != (api.Value{N: up}) || !is {
				t.Fatalf("%d at %d: %v %t, not %d", fn, time, v, is, up)
			}
			if v, is := y.Value(); v != (api.Value{N: down}) || !is {
				t.Fatalf("%d at %d: %v %t, not %d", fn, time, v, is, down)
			}
		}
		x.Go(n + span - 1)
		if v, is := x.Value(); x.Len() != 1 || !is || v != (api.Value{N: []int64{0, n, 1, n, n, n, 0}[fn]}) {
			t.Errorf("%d: %d points at the end, %v %t", fn, x.Len(), v, is)
		}
	}
}

// P14.3: turning numbers in a great window, against the reference now and then.
func TestTurns(t *testing.T) {
	for _, fn := range functions() {
		x := made(t, fn, 5000)
		for time := int64(1); time < 20000; time++ {
			x.push(t, time, time*time%1777-time%13*100)
			if time%997 == 0 {
				x.check(t)
			}
		}
	}
}
