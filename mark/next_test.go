package mark_test

import (
	"math"
	"testing"

	"waterwheel/api"
)

// mosts returns how many samples may be asked for, if there are n.
func mosts(n int) []int {
	l := []int{math.MinInt, math.MinInt32, -1000, math.MaxInt32, math.MaxInt - 1, math.MaxInt}
	for most := -2; most <= n+2; most++ {
		l = append(l, most)
	}
	return l
}

// P20.2: Next by hand, where some samples are at the same time.
func TestNext(t *testing.T) {
	x := made(t, 10, mem(8), cpu(8), cpu(3), of(series("a"), 8), cpu(9), mem(12), cpu(16), mem(21), cpu(30))
	x.pass(t, 2)
	for _, c := range []struct {
		most, n int
		to      int64
	}{{math.MinInt, 0, 2}, {-1, 0, 2}, {0, 0, 2}, {1, 1, 7}, {2, 1, 7}, {3, 1, 7}, {4, 4, 8}, {5, 5, 11}, {6, 6, 15}, {7, 7, 20}, {8, 7, 20}, {math.MaxInt, 7, 20}} {
		l, to := x.next(t, c.most)
		if len(l) != c.n || to != c.to {
			t.Errorf("next %d: %d samples, up to %d", c.most, len(l), to)
		}
	}
	l, _ := x.next(t, 7)
	// mem is the first series, cpu the second one, a the third one.
	want := []api.Sample{cpu(3), mem(8), cpu(8), of(series("a"), 8), cpu(9), mem(12), cpu(16)}
	if dump(l...) != dump(want...) {
		t.Errorf("next: %s", dump(l...))
	}
	x.pass(t, 7)
	for _, c := range []struct {
		most, n int
		to      int64
	}{{0, 0, 7}, {1, 0, 7}, {2, 0, 7}, {3, 3, 8}, {4, 4, 11}, {5, 5, 15}, {6, 6, 20}} {
		if l, to := x.next(t, c.most); len(l) != c.n || to != c.to {
			t.Errorf("after 7, next %d: %d samples, up to %d", c.most, len(l), to)
		}
	}
	x.pass(t, 16)
	for _, most := range mosts(2) {
		// There is none up to the mark, so that none is left out.
		if l, to := x.next(t, most); len(l) != 0 || to != 20 {
			t.Errorf("after 16, next %d: %d samples, up to %d", most, len(l), to)
		}
	}
	x.check(t)
}

// P20.2: a sample right behind the passed time is left out, at the mark it is not.
func TestNextEnds(t *testing.T) {
	x := made(t, 5, cpu(4), mem(4), cpu(5), mem(10))
	for _, c := range []struct {
		pass int64
		most int
		n    int
		to   int64
	}{{0, 1, 0, 0}, {0, 2, 2, 4}, {0, 3, 3, 5}, {3, 1, 0, 3}, {3, 2, 2, 4}, {4, 0, 0, 4}, {4, 1, 1, 5}, {5, 0, 0, 5}, {5, 9, 0, 5}} {
		x.pass(t, c.pass)
		if l, to := x.next(t, c.most); len(l) != c.n || to != c.to {
			t.Errorf("after %d, next %d: %d samples, up to %d", c.pass, c.most, len(l), to)
		}
	}
}

// P20.2: Next and Between of all sets of samples of two series at few times.
func TestNextSmall(t *testing.T) {
	const width = 4
	for set := range 1 << (2 * width) {
		for late := range int64(3) {
			x := made(t, width+late)
			for bit := range 2 * width {
				// The series that comes first is not always the same.
				at := (bit + set) % (2 * width)
				if set>>at&1 == 1 {
					x.put(t, of(series([]string{"b", "a"}[at%2]), int64(1+at/2)))
				}
			}
			x.put(t, of(series("c"), 2*width))
			for passed := range int64(width + 1) {
				x.pass(t, passed)
				for most := -1; most < 2*width+2; most++ {
					x.next(t, most)
				}
			}
			if set%16 == 5 {
				for from := int64(-1); from <= width+2; from++ {
					for to := int64(-1); to <= width+2; to++ {
						x.between(t, from, to)
					}
				}
			}
		}
	}
}

// P20.2: all samples are passed on, whatever number is asked for, as long as those
// of one time are.
func TestNextAll(t *testing.T) {
	d := dice(8)
	for most := 6; most < 40; most++ {
		x := made(t, 80)
		for range 300 {
			x.put(t, of(series(pick(&d, "a", "b", "c", "d", "e", "f")), d.to(1, 80)))
		}
		x.put(t, cpu(150))
		var got []api.Sample
		for x.i.Passed() < x.i.Mark() {
			l, to := x.next(t, most)
			if to <= x.i.Passed() || len(l) > most {
				t.Fatalf("next %d: %d samples, up to %d after %d", most, len(l), to, x.i.Passed())
			}
			got = append(got, l...)
			x.pass(t, to)
		}
		if want := x.r.between(0, x.r.mark()); dump(got...) != dump(want...) || len(want) < 100 {
			t.Errorf("next %d: %d samples, not %d", most, len(got), len(want))
		}
	}
}

// P20.2: Pass with each time, and that an error has no effect.
func TestPass(t *testing.T) {
	for mark := range int64(6) {
		for first := range mark + 1 {
			for _, to := range []int64{math.MinInt64, -maxTime, -1, 0, 1, 2, 3, 4, 5, 6, 7, maxTime, math.MaxInt64} {
				x := made(t, 3, cpu(mark+3))
				x.pass(t, first)
				want := api.OK
				if to < first || to > mark {
					want = api.ErrArg
				}
				if e := x.pass(t, to); e != want {
					t.Errorf("pass %d after %d, mark %d: error %d", to, first, mark, e)
				}
				x.check(t)
			}
		}
	}
	x := made(t, 0, cpu(maxTime))
	for _, to := range []int64{maxTime + 1, maxTime - 1, maxTime - 2, maxTime - 1, maxTime, maxTime + 1, maxTime} {
		x.pass(t, to)
		x.check(t)
	}
	if x.i.Passed() != maxTime {
		t.Errorf("passed %d", x.i.Passed())
	}
}

// P20.2: two floors, one after the other, in each order, and that an error has no
// effect.
func TestTrim(t *testing.T) {
	floors := []int64{math.MinInt64, -maxTime, -1, 0, 1, 2, 3, 4, 5, 6, 7, 8, maxTime, math.MaxInt64}
	for passed := range int64(7) {
		for _, first := range floors {
			for _, second := range floors {
				x := made(t, 4, cpu(2), mem(3), cpu(3), cpu(5), mem(6), of(series("a"), 10))
				x.pass(t, passed)
				for _, floor := range []int64{first, second} {
					n, e := x.trim(t, floor)
					if (e == api.OK) != (floor <= passed) || e != api.OK && (e != api.ErrArg || n != 0) {
						t.Errorf("trim %d, passed %d: %d, error %d", floor, passed, n, e)
					}
				}
				x.check(t)
			}
		}
	}
}

// P20.2: what is removed, by hand; a series that came after a trim is trimmed, too.
func TestTrimLater(t *testing.T) {
	x := made(t, 2, cpu(4), mem(4), cpu(5), cpu(6))
	x.pass(t, 4)
	for _, c := range []struct {
		floor int64
		n     int
		e     api.Errno
	}{{5, 0, api.ErrArg}, {3, 0, api.OK}, {4, 2, api.OK}, {4, 0, api.OK}, {1, 0, api.OK}} {
		if n, e := x.trim(t, c.floor); n != c.n || e != c.e {
			t.Errorf("trim %d: %d, error %d", c.floor, n, e)
		}
	}
	x.put(t, of(series("new"), 5))
	x.put(t, mem(9))
	x.pass(t, 7)
	x.check(t)
	if n, e := x.trim(t, 5); n != 2 || e != api.OK {
		t.Errorf("trim 5: %d, error %d", n, e)
	}
	if n, e := x.trim(t, 4); n != 0 || e != api.OK {
		t.Errorf("trim 4: %d, error %d", n, e)
	}
	x.check(t)
	if l := x.i.Samples(); dump(l...) != dump(cpu(6), mem(9)) {
		t.Errorf("samples %s", dump(l...))
	}
	x.put(t, mem(maxTime))
	x.pass(t, maxTime-2)
	x.trim(t, maxTime-2)
	x.again(t)
	if e := x.put(t, cpu(maxTime)); e != api.OK || len(x.i.Samples()) != 2 {
		t.Errorf("error %d, samples %s", e, dump(x.i.Samples()...))
	}
}

// P20.3: Between and Samples by hand, below and above the mark, and at limits.
func TestBetween(t *testing.T) {
	x := made(t, 8, mem(1), mem(4), cpu(9), cpu(4), mem(9), cpu(7))
	x.pass(t, 1)
	want := []api.Sample{mem(1), mem(4), cpu(4), cpu(7), mem(9), cpu(9)}
	if l := x.i.Samples(); dump(l...) != dump(want...) || x.i.Series() != 2 {
		t.Errorf("samples %s", dump(l...))
	}
	near := []int64{math.MinInt64, math.MinInt64 + 1, -maxTime, -1, 0, 1, 2, 3, 4, 5, 6, 7, 8, 9, 10, maxTime - 1, maxTime, maxTime + 1, math.MaxInt64 - 1, math.MaxInt64}
	for _, from := range near {
		for _, to := range near {
			var l []api.Sample
			for _, s := range want {
				if from < s.Time && s.Time <= to {
					l = append(l, s)
				}
			}
			if got := x.i.Between(from, to); dump(got...) != dump(l...) {
				t.Errorf("between %d and %d: %s", from, to, dump(got...))
			}
		}
	}
	x = made(t, maxTime, cpu(maxTime), mem(maxTime), cpu(1))
	if l := x.i.Samples(); dump(l...) != dump(cpu(1), cpu(maxTime), mem(maxTime)) {
		t.Errorf("samples %s", dump(l...))
	}
	x.between(t, maxTime-1, maxTime)
	x.between(t, maxTime, math.MaxInt64)
	x.between(t, 0, maxTime-1)
}
