package slide_test

import (
	"math"
	"testing"

	"waterwheel/api"
	"waterwheel/slide"
)

// P14.2: the bytes of slides, given by hand.
func TestBytes(t *testing.T) {
	gone := filled(t, api.FnIncrease, 3, point(1, 2), point(2, 8))
	gone.advance(t, 5)
	for want, x := range map[string]*pair{
		"\x01\x01\x01\x01\x00\x00":     made(t, api.FnSum, 1),
		"\x01\x04\x02\x2c\x01\x00\x00": made(t, api.FnMax, 300),
		"\x01\x03\x01\x05\x01\x04\x01\x03\x01\x01\x01\x0e\x01\x01\x01\x08\x01\x02\x01\x11": filled(t, api.FnMin, 5, point(1, 7), point(2, 4), point(4, -9)),
		"\x01\x06\x01\x03\x01\x05\x00": gone,
		"\x01\x02\x04\x00\x00\x00\x40\x06\x00\x00\x00\x00\x00\x01\x01\x01\x06\x00\x00\x00\x00\x00\x01\x00": filled(t, api.FnCount, api.MaxSpan, point(api.MaxTime, 0)),
	} {
		if s := string(x.s.Bytes()); s != want {
			t.Errorf("%q, not %q", s, want)
		}
		x.check(t)
		x.s = read(t, want)
		x.check(t)
	}
}

// good reports whether a slide can have these points in this order.
func good(fn, span, time int64, l ...api.Point) bool {
	if fn < 1 || fn > 6 || span < 1 || span > api.MaxSpan || time < 0 || time > api.MaxTime {
		return false
	}
	for i, p := range l {
		if p.Time < 1 || p.Time > time || p.Time <= time-span || i > 0 && p.Time <= l[i-1].Time {
			return false
		}
	}
	return true
}

// tryRead reads the bytes of a function, a span, a time and points, which are
// those of a slide or not.
func tryRead(t *testing.T, fn, span, time int64, l ...api.Point) {
	t.Helper()
	b := written(fn, span, time, l...)
	if !good(fn, span, time, l...) {
		bad(t, b)
		return
	}
	x := &pair{read(t, b), reference{fn: int(fn), span: span, time: time, added: l}}
	x.check(t)
}

// P14.2: the bytes of all small functions, spans, times and points.
func TestReadSmall(t *testing.T) {
	for fn := int64(0); fn < 9; fn++ {
		for span := int64(0); span < 5; span++ {
			for time := int64(0); time < 7; time++ {
				tryRead(t, fn, span, time)
				for a := int64(-2); a < 9; a++ {
					tryRead(t, fn, span, time, point(a, 5))
					for b := int64(-2); b < 9; b++ {
						tryRead(t, fn, span, time, point(a, 5), point(b, -3))
						tryRead(t, fn, span, time, point(a, 5), point(b, -3), point(time, 4))
					}
				}
			}
		}
	}
}

// P14.2: functions, spans, times and points at their limits and beyond.
func TestReadLimits(t *testing.T) {
	most := []int64{0, 1, 2, 6, 7, api.MaxSpan - 1, api.MaxSpan, api.MaxSpan + 1, 1<<32 + 1, api.MaxTime - 1, api.MaxTime,
		api.MaxTime + 1, 1<<62 + 1, math.MaxInt64, math.MinInt64, math.MinInt64 + 1, -1}
	for _, x := range most {
		tryRead(t, x, 5, 9, point(7, 1))
		for _, fn := range []int64{1, 3, 6} {
			tryRead(t, fn, x, 9, point(7, 1))
			tryRead(t, fn, x, api.MaxTime, point(api.MaxTime-api.MaxSpan, 1))
			tryRead(t, fn, x, api.MaxTime, point(api.MaxTime-api.MaxSpan+1, 1))
			tryRead(t, fn, 5, x)
			for _, n := range []int64{math.MinInt64, -1, 0, math.MaxInt64} {
				tryRead(t, fn, api.MaxSpan, x, point(x-1, n), point(x, n))
				tryRead(t, fn, api.MaxSpan, x, point(x-api.MaxSpan, n))
				tryRead(t, fn, api.MaxSpan, x, point(x-api.MaxSpan+1, n), point(x, n))
			}
			for _, y := range most {
				tryRead(t, fn, api.MaxSpan, y, point(x, 1))
				tryRead(t, fn, api.MaxSpan, y, point(y-1, 1), point(x, 1))
				tryRead(t, fn, api.MaxSpan, y, point(y-1, 1), point(x, 1), point(y, 1))
			}
		}
	}
}

// P14.2: a point is in the window at the time, and not only at that of the last
// point.
func TestReadWindow(t *testing.T) {
	for _, fn := range []int64{1, 2, 3, 4, 5, 6} {
		for span := int64(1); span < 12; span++ {
			for time := int64(20); time < 40; time++ {
				tryRead(t, fn, span, time, point(20, 5))
				tryRead(t, fn, span, time, point(19, 2), point(20, 5))
				tryRead(t, fn, span, time, point(15, 2), point(20, 5), point(21, 5), point(25, 1))
			}
		}
	}
}

// P14.2: bytes that are cut off, or have something behind them.
func TestReadCut(t *testing.T) {
	bad(t, "")
	if s, e := slide.Read(nil); s != nil || e != api.ErrBad {
		t.Errorf("read of nil: a slide %t, error %d", s != nil, e)
	}
	for _, x := range []*pair{
		made(t, api.FnLast, 7),
		filled(t, api.FnMin, 300, point(1, 0)),
		filled(t, api.FnSum, api.MaxSpan, point(3, math.MinInt64), point(4, 0), point(900, math.MaxInt64), point(api.MaxSpan, -1)),
	} {
		b := x.r.bytes()
		x.s = read(t, b)
		x.check(t)
		for n := range len(b) {
			bad(t, b[:n])
		}
		for _, more := range []string{"\x00", "\x01", "\x01\x01\x01\x01", "\x01\x01\x00", b} {
			bad(t, b+more)
		}
	}
}

// P14.2: each byte changed in each way: what is read has those bytes.
func TestReadChanged(t *testing.T) {
	b := filled(t, api.FnIncrease, 300, point(3, math.MinInt64), point(4, 0), point(299, math.MaxInt64), point(301, -150)).r.bytes()
	count := 0
	for i := range b {
		for c := range 256 {
			changed := []byte(b)
			changed[i] = byte(c)
			s, e := slide.Read(changed)
			if (e != api.OK || s == nil) && (e != api.ErrBad || s != nil) {
				t.Fatalf("read of %q: a slide %t, error %d", changed, s != nil, e)
			}
			if e != api.OK {
				continue
			}
			count++
			if again := string(s.Bytes()); again != string(changed) {
				t.Fatalf("read of %q has the bytes %q", changed, again)
			}
			for _, p := range s.Points() {
				if p.Time > s.Time() || p.Time < 1 {
					t.Fatalf("read of %q has points %v at %d", changed, s.Points(), s.Time())
				}
			}
		}
	}
	if count < 10*256 {
		t.Errorf("only %d slides", count)
	}
}

// P14.2: fewer or more points than the bytes say, and numbers that are not
// written as they should be.
func TestReadCount(t *testing.T) {
	const begin, points = "\x01\x01\x01\x0a\x01\x09", "\x01\x03\x01\x02" + "\x01\x04\x01\x01"
	x := &pair{read(t, begin+"\x01\x02"+points), reference{fn: 1, span: 10, time: 9, added: []api.Point{point(3, 1), point(7, -1)}}}
	x.check(t)
	for _, count := range []string{"\x00", "\x01\x01", "\x01\x03", "\x01\xff", "\x02\x02\x00", "\x04\x02\x00\x00\x80", "\x05\x02\x00\x00\x00\x01",
		"\x08\x02\x00\x00\x00\x00\x00\x00\x80", "\x08\xff\xff\xff\xff\xff\xff\xff\xff", "\x09", "\x01\x00"} {
		bad(t, begin+count+points)
	}
	for _, count := range []string{"\x01\x01", "\x01\x02", "\x08\xff\xff\xff\xff\xff\xff\xff\xff"} {
		bad(t, begin+count)
	}
	for _, other := range []string{"\x02\x01\x00\x01\x0a\x01\x09", "\x01\x01\x02\x0a\x00\x01\x09", "\x01\x01\x01\x0a\x02\x09\x00", "\x01\x01\x01\x0a\x09"} {
		bad(t, other+"\x01\x02"+points)
	}
	for _, other := range []string{"\x02\x03\x00\x01\x02", "\x01\x03\x02\x02\x00", "\x09\x01\x02", "\x01\x03\x09", "\x01\x03\x01\x00"} {
		bad(t, begin+"\x01\x01"+other)
	}
}
