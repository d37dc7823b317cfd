package mark_test

import (
	"maps"
	"math"
	"slices"
	"strings"
	"testing"

	"waterwheel/api"
)

// P20.1, P20.2, P20.3: all lists of five calls of few.
func TestEveryCall(t *testing.T) {
	calls := []func(t *testing.T, x *pair, n int64){
		func(t *testing.T, x *pair, n int64) { x.put(t, cpu(n+1)) },
		func(t *testing.T, x *pair, n int64) { x.put(t, mem(3)) },
		func(t *testing.T, x *pair, n int64) { x.put(t, cpu(5-n)) },
		func(t *testing.T, x *pair, n int64) { x.put(t, mem(2*n+2)) },
		func(t *testing.T, x *pair, n int64) {
			_, to := x.next(t, 1)
			x.pass(t, to)
		},
		func(t *testing.T, x *pair, n int64) { x.pass(t, n) },
		func(t *testing.T, x *pair, n int64) { x.trim(t, n-1) },
		func(t *testing.T, x *pair, n int64) { x.again(t) },
	}
	size := len(calls)
	for late := range int64(3) {
		for list := range size * size * size * size * size {
			x := made(t, late)
			for n := range int64(5) {
				calls[list%size](t, x, n)
				list /= size
			}
			x.check(t)
			for most := range 4 {
				x.next(t, most)
			}
		}
	}
}

// P20.1, P20.2, P20.3: calls that look like chance.
func TestChance(t *testing.T) {
	for seed := range 60 {
		d := dice(seed)
		late := pick(&d, 0, 1, d.to(0, 30), d.to(0, 300))
		x := made(t, late)
		for range 300 {
			switch d.of(10) {
			case 0:
				x.pass(t, d.to(x.r.passed-1, x.r.mark()+1))
			case 1:
				l, to := x.next(t, d.of(12)-1)
				if len(l) > 0 {
					x.pass(t, to)
				}
			case 2:
				if d.of(4) == 0 {
					x.trim(t, d.to(x.r.floor-1, x.r.passed+1))
				}
			case 3:
				from := d.to(-1, x.r.greatest+1)
				x.between(t, from, from+d.to(-1, 30))
			case 4:
				if d.of(9) == 0 {
					x.again(t)
				}
			default:
				x.put(t, d.sample(x.r.mark()+1+late/2, 3+late/2))
			}
		}
		x.check(t)
		x.next(t, math.MaxInt)
	}
}

// orders calls each with all orders of some samples.
func orders(l []api.Sample, each func([]api.Sample)) {
	var visit func(n int)
	visit = func(n int) {
		if n == len(l) {
			each(l)
			return
		}
		for i := n; i < len(l); i++ {
			l[n], l[i] = l[i], l[n]
			visit(n + 1)
			l[n], l[i] = l[i], l[n]
		}
	}
	visit(0)
}

// P20.4: the samples that were accepted are the same in each order in which none is
// late. The order in which series came decides only about samples of one time.
func TestOrders(t *testing.T) {
	l := []api.Sample{cpu(1), cpu(4), mem(4), mem(2), of(series("cpu", "a", "x"), 6), of(series("m"), 4)}
	sorted := func(l []api.Sample) string {
		var all []string
		for _, s := range l {
			all = append(all, dump(s))
		}
		slices.Sort(all)
		return strings.Join(all, "")
	}
	want, count, late := "", 0, 0
	for _, lateness := range []int64{0, 2, 4, 5, 6, maxTime} {
		orders(l, func(l []api.Sample) {
			x := made(t, lateness)
			for _, s := range l {
				if x.put(t, s) != api.OK {
					late++
					return
				}
			}
			x.check(t)
			if x.i.Mark() != max(6-lateness, 0) {
				t.Fatalf("mark %d", x.i.Mark())
			}
			got := sorted(x.i.Samples())
			if count++; count == 1 {
				want = got
			}
			if got != want {
				t.Fatalf("samples %s, not %s", got, want)
			}
		})
	}
	if count < 2*720 || late < 720 {
		t.Errorf("%d orders, %d with a late sample", count, late)
	}
}

// P20.4: marks never decrease, no sample is passed twice, and none at or before the
// mark is omitted once everything was passed.
func TestPassedOnce(t *testing.T) {
	for seed := range 40 {
		d := dice(100 + seed)
		x := made(t, d.to(0, 40))
		put, got, mark := map[string]int{}, map[string]int{}, int64(0)
		step := func(most int) {
			l, to := x.i.Next(most)
			for _, s := range l {
				if s.Time <= x.i.Passed() || s.Time > to {
					t.Fatalf("a sample at %d of those after %d, up to %d", s.Time, x.i.Passed(), to)
				}
				got[dump(s)]++
			}
			if e := x.i.Pass(to); e != api.OK {
				t.Fatalf("pass of %d: error %d", to, e)
			}
		}
		for range 400 {
			s := d.sample(x.i.Mark()+20, 25)
			if x.i.Put(s) == api.OK {
				put[dump(s)]++
			}
			if d.of(5) == 0 {
				step(d.of(20))
			}
			if d.of(50) == 0 {
				x.i.Trim(d.to(0, x.i.Passed()))
				x.i = read(t, string(x.i.Bytes()))
			}
			if x.i.Mark() < mark || x.i.Passed() > x.i.Mark() {
				t.Fatalf("mark %d after %d, passed %d", x.i.Mark(), mark, x.i.Passed())
			}
			mark = x.i.Mark()
		}
		step(math.MaxInt)
		if l, to := x.i.Next(math.MaxInt); len(l) > 0 || to != x.i.Mark() || x.i.Passed() != to {
			t.Fatalf("next %s, up to %d, passed %d", dump(l...), to, x.i.Passed())
		}
		for _, s := range x.i.Between(x.i.Mark(), maxTime) {
			got[dump(s)]++
		}
		if !maps.Equal(put, got) || len(put) < 100 {
			t.Fatalf("%d samples put, %d passed on or waiting", len(put), len(got))
		}
	}
}

// T6: two intakes do not depend on each other, and the same calls have the same
// results.
func TestApart(t *testing.T) {
	d := dice(3)
	for range 50 {
		x, y := made(t, 5), made(t, 5)
		for range 40 {
			s := d.sample(x.r.mark()+5, 8)
			x.put(t, s)
			y.put(t, s)
			if d.of(3) == 0 {
				to := d.to(x.r.passed, x.r.mark())
				x.pass(t, to)
				y.pass(t, to)
			}
			if string(x.i.Bytes()) != string(y.i.Bytes()) {
				t.Fatal("the same calls have other results")
			}
		}
		x.pass(t, x.r.mark())
		x.trim(t, x.r.mark())
		x.put(t, cpu(1000))
		x.check(t)
		y.check(t)
	}
}
