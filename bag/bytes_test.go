package bag_test

import (
	"math"
	"slices"
	"testing"

	"waterwheel/api"
	"waterwheel/bag"
)

// most is the greatest sum of counts that is read.
const most = math.MaxInt32

// P13.2: the bytes of bags, given by hand.
func TestBytes(t *testing.T) {
	for want, l := range map[string]reference{
		"\x00\x00":                 nil,
		"\x01\x02\x00":             {over, over},
		"\x00\x01\x01\x00\x01\x01": values(0),
		"\x01\x01\x01\x02\x01\x03\x01\x01\x02\x2c\x01\x01\x02": {of(150), of(-2), over, of(150)},
	} {
		b := filled(t, l...)
		if s := string(b.Bytes()); s != want {
			t.Errorf("%q, not %q", s, want)
		}
		check(t, read(t, want), l, l.near()...)
	}
}

// P13.2: what is read from bytes has the same numbers, and behaves like any other
// bag from then on.
func TestRead(t *testing.T) {
	d := dice(3)
	for size := range 60 {
		r := reference{}
		for range size {
			r.put(d.value(size))
		}
		b := read(t, r.bytes())
		check(t, b, r, r.near()...)
		for range 40 {
			v := d.value(size + 1)
			if d.of(2) == 0 {
				b.Put(v)
				r.put(v)
			} else if e, want := b.Take(v), r.take(v); e != want {
				t.Fatalf("take of %v: error %d, not %d", v, e, want)
			}
			checkEnds(t, b, r)
		}
		check(t, b, r, r.near()...)
	}
}

// bad checks that some bytes are not those of a bag.
func bad(t *testing.T, b string) {
	t.Helper()
	if x, e := bag.Read([]byte(b)); x != nil || e != api.ErrBad {
		t.Errorf("read of %s: a bag %t, error %d", short(b), x != nil, e)
	}
}

// P13.2: bytes that are cut off, or have something behind them.
func TestReadCut(t *testing.T) {
	bad(t, "")
	if x, e := bag.Read(nil); x != nil || e != api.ErrBad {
		t.Errorf("read of nil: a bag %t, error %d", x != nil, e)
	}
	for _, r := range []reference{nil, {over}, values(0), append(values(-1000, 5, 5, math.MaxInt64, math.MinInt64), over)} {
		b := r.bytes()
		for n := range len(b) {
			bad(t, b[:n])
		}
		for _, more := range []string{"\x00", "\x01", "\x01\x02\x01\x01", b} {
			bad(t, b+more)
		}
	}
}

// P13.2: each byte changed in each way: what is read has those bytes.
func TestReadChanged(t *testing.T) {
	r := append(values(-1000, 5, 5, 300, math.MaxInt64, math.MinInt64), over)
	good := 0
	for i := range r.bytes() {
		for c := range 256 {
			b := []byte(r.bytes())
			b[i] = byte(c)
			x, e := bag.Read(b)
			if (e != api.OK || x == nil) && (e != api.ErrBad || x != nil) {
				t.Fatalf("read of %q: a bag %t, error %d", b, x != nil, e)
			}
			if e == api.OK {
				good++
				if again := x.Bytes(); !slices.Equal(again, b) {
					t.Fatalf("read of %q has the bytes %q", b, again)
				}
			}
		}
	}
	if good < 5*256 {
		t.Errorf("only %d bags", good)
	}
}

// P13.2: numbers that do not ascend, or are there twice, or not at all.
func TestReadOrder(t *testing.T) {
	some := []int64{math.MinInt64, -300, -1, 0, 1, 2, 300, math.MaxInt64}
	for i, m := range some {
		for j, n := range some {
			b := written(0, api.Often{N: m, Times: 1}, api.Often{N: n, Times: 2})
			if i < j {
				check(t, read(t, b), values(m, n, n), some...)
			} else {
				bad(t, b)
			}
		}
		bad(t, written(0, api.Often{N: m, Times: 0}))
		bad(t, written(3, api.Often{N: m, Times: 0}))
		bad(t, written(most, api.Often{N: m, Times: 0}))
	}
	bad(t, written(0, api.Often{N: 1, Times: 1}, api.Often{N: 3, Times: 1}, api.Often{N: 2, Times: 1}))
	bad(t, written(0, api.Often{N: 1, Times: 1}, api.Often{N: 2, Times: 0}, api.Often{N: 3, Times: 1}))
	bad(t, written(0, api.Often{N: 1, Times: 1}, api.Often{N: 2, Times: 1}, api.Often{N: 1, Times: 1}))
}

// P13.2: fewer or more numbers than the bytes say, and counts that are not
// written as they should be.
func TestReadCount(t *testing.T) {
	entries := "\x01\x02\x01\x01" + "\x01\x04\x01\x02"
	check(t, read(t, "\x00\x01\x02"+entries), values(1, 2, 2), 0, 1, 2, 3)
	bad(t, "\x00\x00"+entries)
	for _, count := range []string{"\x01\x01", "\x01\x03", "\x01\xff", "\x03\x00\x00\x10",
		"\x04\xff\xff\xff\x7f", "\x04\x00\x00\x00\x80", "\x05\x02\x00\x00\x00\x01", "\x08\xff\xff\xff\xff\xff\xff\xff\x7f",
		"\x08\x00\x00\x00\x00\x00\x00\x00\x80", "\x08\xff\xff\xff\xff\xff\xff\xff\xff", "\x02\x02\x00", "\x09"} {
		bad(t, "\x00"+count+entries)
		bad(t, "\x00"+count)
	}
	for _, overs := range []string{"\x01\x00", "\x02\x01\x00", "\x04\x00\x00\x00\x80", "\x09"} {
		bad(t, overs+"\x00")
		bad(t, overs+"\x01\x02"+entries)
	}
	for _, entry := range []string{"\x02\x02\x00\x01\x01", "\x09\x01\x01", "\x01\x02\x02\x01\x00", "\x01\x02\x09", "\x01\x02\x01\x00"} {
		bad(t, "\x00\x01\x01"+entry)
	}
}

// P13.2: counts that add up to the greatest sum, and to more.
func TestReadMost(t *testing.T) {
	for _, c := range []struct {
		overs uint64
		l     []api.Often
	}{
		{most, nil},
		{0, []api.Often{{N: 5, Times: most}}},
		{1, []api.Often{{N: 5, Times: most - 1}}},
		{most - 1, []api.Often{{N: math.MinInt64, Times: 1}}},
		{0, []api.Often{{N: -5, Times: most - 1}, {N: 5, Times: 1}}},
		{7, []api.Often{{N: -5, Times: 1}, {N: 5, Times: most - 8}}},
		{1 << 30, []api.Often{{N: -5, Times: 1 << 29}, {N: 5, Times: 1<<29 - 1}}},
	} {
		s := written(c.overs, c.l...)
		b := read(t, s)
		if b.Len() != most || b.Count(over) != int(c.overs) || !slices.Equal(b.Counts(), c.l) || string(b.Bytes()) != s {
			t.Errorf("%d values, %d over, %v", b.Len(), b.Count(over), b.Counts())
		}
		if n := b.Place(math.MaxInt64); n != most-int(c.overs) {
			t.Errorf("place: %d", n)
		}
		bad(t, written(c.overs+1, c.l...))
		for i := range c.l {
			more := slices.Clone(c.l)
			more[i].Times++
			bad(t, written(c.overs, more...))
		}
		bad(t, written(c.overs, append(slices.Clone(c.l), api.Often{N: math.MaxInt64, Times: 1})...))
	}
}

// P13.2: counts whose sum is only small when it is taken modulo a power of two.
func TestReadWrap(t *testing.T) {
	for _, times := range []int{1 << 31, 1<<32 + 1, 1 << 62, math.MaxInt64, -1, math.MinInt64} {
		bad(t, written(0, api.Often{N: 1, Times: times}))
		bad(t, written(0, api.Often{N: 1, Times: times}, api.Often{N: 2, Times: times}))
		bad(t, written(uint64(times)))
		bad(t, written(uint64(times), api.Often{N: 1, Times: -times}))
		bad(t, written(1, api.Often{N: 1, Times: times}))
	}
	bad(t, written(math.MaxUint64, api.Often{N: 1, Times: 2}))
}
