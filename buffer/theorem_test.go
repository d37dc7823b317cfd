package buffer_test

import (
	"slices"
	"testing"

	"waterwheel/api"
)

// P11.3: a buffer does not depend on the order in which few points are put.
func TestEveryOrder(t *testing.T) {
	want := []api.Point{}
	for _, time := range upward(1, 7) {
		want = append(want, point(3*time, numeral(3*time)))
	}
	var visit func(order []int64)
	visit = func(order []int64) {
		if len(order) == len(want) {
			check(t, filled(t, order...), want, 0, upward(0, 22)...)
			return
		}
		for _, p := range want {
			if !slices.Contains(order, p.Time) {
				visit(append(order[:len(order):len(order)], p.Time))
			}
		}
	}
	visit(nil)
}

// P11.3: a buffer does not depend on the order in which many points are put,
// nor does what a trim leaves of it, and what is put then.
func TestOrder(t *testing.T) {
	for n := int64(1); n < 700; n += 1 + n/9 {
		want := filled(t, upward(1, n)...).Points()
		for _, order := range orders(upward(1, n)) {
			b := filled(t, order...)
			check(t, b, want, 0, 0, n/3, n/2, n-1, n, n+1)
			floor := n / 3
			if gone, e := b.Trim(floor); int64(gone) != floor || e != api.OK {
				t.Fatalf("trim to %d: %d, error %d", floor, gone, e)
			}
			for _, time := range order {
				if e := b.Put(time+n, numeral(time+n)); e != api.OK && e != api.ErrThere {
					t.Fatalf("put of %d: error %d", time+n, e)
				}
			}
			check(t, b, filled(t, upward(floor+1, 2*n)...).Points(), floor, 0, floor, n/2, n, n+1, 2*n)
		}
	}
}

// P11.3: the ranges of two parts that touch are the range of both.
func TestTouch(t *testing.T) {
	d := dice(11)
	for range 300 {
		var times []int64
		for time := int64(1); time < 500; time += int64(1 + d.of(6)) {
			times = append(times, time)
		}
		b := filled(t, d.shuffled(times)...)
		b.Trim(int64(d.of(100)))
		for range 50 {
			l := []int64{int64(d.of(520) - 10), int64(d.of(520) - 10), int64(d.of(520) - 10)}
			slices.Sort(l)
			parts := slices.Concat(b.Range(l[0], l[1]), b.Range(l[1], l[2]))
			if both := b.Range(l[0], l[2]); !slices.Equal(parts, both) {
				t.Fatalf("of %d: %v, not %v", l, parts, both)
			}
		}
	}
}
