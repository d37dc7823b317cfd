package mark_test

import (
	"math"
	"strconv"
	"strings"
	"testing"

	"waterwheel/api"
	"waterwheel/mark"
)

// P20.1, P20.2: the examples of the chapter.
func TestExamples(t *testing.T) {
	x := made(t, 3)
	for _, c := range []struct {
		time int64
		e    api.Errno
		mark int64
	}{{5, api.OK, 2}, {9, api.OK, 6}, {6, api.ErrLate, 6}, {5, api.ErrLate, 6}, {8, api.OK, 6}} {
		if e := x.put(t, cpu(c.time)); e != c.e || x.i.Mark() != c.mark {
			t.Errorf("put of %d: error %d, mark %d", c.time, e, x.i.Mark())
		}
	}
	if l, to := x.next(t, 9); len(l) != 1 || l[0].Time != 5 || to != 6 {
		t.Errorf("next: %s, up to %d", dump(l...), to)
	}
	if x.pass(t, 6) != api.OK || x.put(t, cpu(8)) != api.ErrThere {
		t.Error("pass or put")
	}
	x.check(t)
}

// P20.1: each lateness, valid or not.
func TestNew(t *testing.T) {
	for _, late := range []int64{0, 1, 2, 1000, maxTime - 1, maxTime} {
		x := made(t, late)
		x.check(t)
		if l, to := x.next(t, 5); len(l) != 0 || to != 0 {
			t.Errorf("lateness %d: next %s, up to %d", late, dump(l...), to)
		}
	}
	for _, late := range []int64{math.MinInt64, -maxTime, -1, maxTime + 1, 1 << 62, math.MaxInt64} {
		if i, e := mark.New(late); i != nil || e != api.ErrArg {
			t.Errorf("lateness %d: an intake %t, error %d", late, i != nil, e)
		}
	}
}

// P20.2: the mark for each lateness and each greatest time, also near their limits.
func TestMark(t *testing.T) {
	near := []int64{1, 2, 3, 4, 5, 1000, maxTime - 3, maxTime - 2, maxTime - 1, maxTime}
	for _, late := range append(near, 0) {
		for _, first := range near {
			for _, second := range near {
				x := made(t, late, cpu(first))
				x.put(t, mem(second))
				x.check(t)
				if want := max(max(first, second)-late, 0); x.i.Mark() != want {
					t.Errorf("lateness %d, times %d and %d: mark %d", late, first, second, x.i.Mark())
				}
			}
		}
	}
}

// P20.1: which samples are late, for each lateness, and at which time a series has
// one already.
func TestLate(t *testing.T) {
	for late := range int64(8) {
		for first := int64(1); first < 8; first++ {
			for time := int64(-1); time < 10; time++ {
				x := made(t, late, cpu(first))
				want := api.OK
				switch {
				case time < 1:
					want = api.ErrArg
				case time <= first-late:
					want = api.ErrLate
				case time == first:
					want = api.ErrThere
				}
				if e := x.put(t, cpu(time)); e != want {
					t.Errorf("lateness %d, %d after %d: error %d", late, time, first, e)
				}
				x.check(t)
			}
		}
	}
}

// wrongs returns samples at a time that are not valid.
func wrongs(time int64) []api.Sample {
	nine := series("cpu", "a", "1", "b", "2", "c", "3", "d", "4", "e", "5", "f", "6", "g", "7", "h", "8", "i", "9")
	l := []api.Sample{of(nine, time)}
	for _, metric := range []string{"", "1", "A", "a b", "a-", strings.Repeat("a", 25)} {
		l = append(l, of(series(metric), time), api.Sample{Series: api.Series{Metric: metric, Labels: nine.Labels}, Time: time})
	}
	for _, pairs := range [][]string{{"", "x"}, {"a", ""}, {"A", "x"}, {"a", strings.Repeat("x", 65)}, {strings.Repeat("a", 25), "x"}, {"b", "x", "a", "x"}, {"a", "x", "a", "y"}} {
		l = append(l, of(series("cpu", pairs...), time))
	}
	return l
}

// P20.1: samples that are not valid, also where they would be late, or where there
// is no room, and that they have no effect.
func TestWrong(t *testing.T) {
	intakes := []*pair{made(t, 3), made(t, 3, cpu(5), cpu(9), mem(7)), made(t, 0, cpu(maxTime)), full(t, 3)}
	for _, x := range intakes {
		before := string(x.i.Bytes())
		for _, time := range []int64{1, 6, 7, 9, 10, maxTime} {
			for _, s := range wrongs(time) {
				if e := x.put(t, s); e != api.ErrArg && e != api.ErrLong {
					t.Errorf("%s: error %d", short(dump(s)), e)
				}
			}
		}
		for _, time := range []int64{math.MinInt64, -maxTime, -1, 0, maxTime + 1, 1 << 62, math.MaxInt64} {
			for _, s := range append(wrongs(time), cpu(time), of(series("more"), time)) {
				if e := x.put(t, s); e != wrong(s) || e == api.OK {
					t.Errorf("%s: error %d", short(dump(s)), e)
				}
			}
		}
		if string(x.i.Bytes()) != before {
			t.Error("a sample that is not valid has an effect")
		}
	}
}

// P20.1: samples at all limits.
func TestLimits(t *testing.T) {
	var long []string
	for _, c := range "abcdefgh" {
		long = append(long, strings.Repeat(string(c), 24), strings.Repeat("\xff", 64))
	}
	for _, s := range []api.Series{series("_"), series(strings.Repeat("z", 24)), series("a", long...), series(strings.Repeat("z", 24), long...), series("a", "_", "\x00")} {
		for _, time := range []int64{1, maxTime - 1, maxTime} {
			for _, n := range []int64{math.MinInt64, -1, 0, 1, math.MaxInt64} {
				x := made(t, 0, api.Sample{Series: s, Time: time, N: n})
				x.check(t)
				x.again(t)
				x.pass(t, time)
				x.check(t)
			}
		}
	}
}

// nth returns the series with a number, of which there are any number. The first
// ones do not have the least keys.
func nth(n int) api.Series {
	return series("m"+strconv.Itoa(5000-n), "n", strconv.Itoa(n))
}

// full returns an intake with as many series as there may be. Each one has a sample
// at 9, and the mark is 6.
func full(t *testing.T, late int64) *pair {
	t.Helper()
	x := made(t, late)
	for n := range 1024 {
		if e := x.put(t, of(nth(n), 9)); e != api.OK {
			t.Fatalf("series %d: error %d", n, e)
		}
	}
	return x
}

// P20.1: as many series as there may be, and more, with each error, and which one
// comes first.
func TestSeriesLimit(t *testing.T) {
	x := full(t, 3)
	x.check(t)
	for _, c := range []struct {
		n    int
		time int64
		e    api.Errno
	}{
		{1024, 7, api.ErrLong}, {1024, 9, api.ErrLong}, {5000, 20, api.ErrLong}, {1024, 6, api.ErrLate}, {1024, 1, api.ErrLate}, {1024, 0, api.ErrArg},
		{0, 9, api.ErrThere}, {1023, 9, api.ErrThere}, {1023, 6, api.ErrLate}, {1023, maxTime + 1, api.ErrArg},
		{0, 7, api.OK}, {0, 7, api.ErrThere}, {1023, 30, api.OK}, {1024, 31, api.ErrLong}, {1023, 27, api.ErrLate},
	} {
		if e := x.put(t, of(nth(c.n), c.time)); e != c.e {
			t.Errorf("series %d at %d: error %d", c.n, c.time, e)
		}
	}
	x.check(t)
	x.next(t, 2000)
	x.next(t, 1024)
	x.next(t, 1)
	x.pass(t, 27)
	if n, e := x.trim(t, 27); n != 1025 || e != api.OK {
		t.Errorf("trim: %d, error %d", n, e)
	}
	// A series without samples is still there.
	if e := x.put(t, of(nth(2000), 40)); e != api.ErrLong || x.i.Series() != 1024 {
		t.Errorf("error %d, %d series", e, x.i.Series())
	}
	x.put(t, of(nth(500), 40))
	x.again(t)
	x.put(t, of(nth(2000), 41))
	x.put(t, of(nth(501), 41))
	x.check(t)
}

// P20.1: as many samples of a series as there may be, and more, with each error, and
// which one comes first; there is room again once some are removed.
func TestPointsLimit(t *testing.T) {
	const most = 1 << 16
	x := made(t, most+10)
	for n := range int64(most) {
		// From both ends to the middle, so that none is in order.
		time := 1 + n/2
		if n%2 == 1 {
			time = most - n/2
		}
		if e := x.put(t, cpu(time)); e != api.OK {
			t.Fatalf("put of %d: error %d", time, e)
		}
	}
	x.check(t)
	for _, c := range []struct {
		s api.Sample
		e api.Errno
	}{
		{cpu(most + 1), api.ErrLong}, {cpu(maxTime), api.ErrLong}, {cpu(most), api.ErrThere}, {cpu(1), api.ErrThere}, {cpu(0), api.ErrArg},
		{mem(1), api.OK}, {of(series("cpu", "a", "x"), 1), api.OK}, {mem(most + 12), api.OK}, {mem(1), api.ErrLate}, {cpu(1), api.ErrLate}, {cpu(2), api.ErrLate}, {cpu(3), api.ErrThere},
		{cpu(most + 1), api.ErrLong}, {mem(most + 1), api.OK},
	} {
		if e := x.put(t, c.s); e != c.e {
			t.Errorf("%s: error %d", short(dump(c.s)), e)
		}
	}
	x.again(t)
	if e := x.put(t, cpu(most+1)); e != api.ErrLong {
		t.Errorf("after a read: error %d", e)
	}
	x.pass(t, 2)
	x.trim(t, 2)
	for time := int64(most + 1); time <= most+3; time++ {
		want := api.OK
		if time == most+3 {
			want = api.ErrLong
		}
		if e := x.put(t, cpu(time)); e != want {
			t.Errorf("after a trim, put of %d: error %d", time, e)
		}
	}
	x.check(t)
}

// rest checks all calls of an intake that is not valid.
func rest(t *testing.T, name string, i *mark.Intake) {
	t.Helper()
	for _, s := range append(wrongs(5), cpu(5), cpu(0), api.Sample{}) {
		if may, e := i.May(s), i.Put(s); may != api.ErrNil || e != api.ErrNil {
			t.Errorf("%s: may and put of %s: errors %d and %d", name, short(dump(s)), may, e)
		}
	}
	for _, time := range []int64{-1, 0, 5, maxTime, math.MaxInt64} {
		if e := i.Pass(time); e != api.ErrNil {
			t.Errorf("%s: pass: error %d", name, e)
		}
		if n, e := i.Trim(time); n != 0 || e != api.ErrNil {
			t.Errorf("%s: trim: %d, error %d", name, n, e)
		}
		if l, to := i.Next(int(time)); l != nil || to != 0 {
			t.Errorf("%s: next %s, up to %d", name, dump(l...), to)
		}
	}
	if m, p, n := i.Mark(), i.Passed(), i.Series(); m != 0 || p != 0 || n != 0 {
		t.Errorf("%s: mark %d, passed %d, %d series", name, m, p, n)
	}
	if l, all, b := i.Between(0, maxTime), i.Samples(), i.Bytes(); l != nil || all != nil || b != nil {
		t.Errorf("%s: between %s, samples %s, bytes %q", name, dump(l...), dump(all...), b)
	}
}

// Rule 7: intakes that nobody made.
func TestNil(t *testing.T) {
	rest(t, "nil", nil)
	rest(t, "zero", &mark.Intake{})
	x := made(t, 3, cpu(5), mem(3))
	x.pass(t, 1)
	other := *x.i
	rest(t, "copy", &other)
	x.check(t)
	x.put(t, cpu(6))
	rest(t, "copy", &other)
	x.check(t)
}
