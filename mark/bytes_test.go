package mark_test

import (
	"math"
	"slices"
	"strconv"
	"strings"
	"testing"

	"waterwheel/api"
	"waterwheel/mark"
)

// wantBytes checks the bytes, given by hand, and that they are read.
func (x *pair) wantBytes(t *testing.T, want string) {
	t.Helper()
	if b := string(x.i.Bytes()); b != want {
		t.Errorf("bytes %q, not %q", b, want)
	}
	x.check(t)
	x.i = read(t, want)
	x.check(t)
}

// P20.3: bytes given by hand.
func TestBytes(t *testing.T) {
	x := made(t, 3)
	x.wantBytes(t, "\x01\x03\x00\x00\x00\x01\x01\x00")
	x.put(t, api.Sample{Series: series("cpu", "a", "x"), Time: 9, N: -1})
	table := "\x01\x0f\x01\x01\x01\x0b\x01\x03cpu\x01\x01a\x01\x01x"
	x.wantBytes(t, "\x01\x03\x01\x09\x00\x00"+table+"\x01\x01\x01\x09\x01\x01")
	x.put(t, api.Sample{Series: series("b"), Time: 300, N: 0})
	table = "\x01\x14\x01\x02\x01\x0b\x01\x03cpu\x01\x01a\x01\x01x\x01\x03\x01\x01b"
	x.wantBytes(t, "\x01\x03\x02\x2c\x01\x00\x00"+table+"\x01\x01\x01\x09\x01\x01"+"\x01\x01\x02\x2c\x01\x00")
	x.pass(t, 10)
	x.put(t, api.Sample{Series: series("b"), Time: 298, N: math.MinInt64})
	x.wantBytes(t, "\x01\x03\x02\x2c\x01\x01\x0a\x00"+table+"\x01\x01\x01\x09\x01\x01"+
		"\x01\x02\x02\x2a\x01\x08\xff\xff\xff\xff\xff\xff\xff\xff\x02\x2c\x01\x00")
	x.trim(t, 9)
	x.wantBytes(t, "\x01\x03\x02\x2c\x01\x01\x0a\x01\x09"+table+"\x00"+
		"\x01\x02\x02\x2a\x01\x08\xff\xff\xff\xff\xff\xff\xff\xff\x02\x2c\x01\x00")
	x = made(t, maxTime, api.Sample{Series: series("b"), Time: maxTime, N: 64})
	x.wantBytes(t, "\x06\x00\x00\x00\x00\x00\x01\x06\x00\x00\x00\x00\x00\x01\x00\x00\x01\x07\x01\x01\x01\x03\x01\x01b"+
		"\x01\x01\x06\x00\x00\x00\x00\x00\x01\x01\x80")
	x = made(t, 0, api.Sample{Series: series("b"), Time: 2, N: 64})
	x.pass(t, 2)
	x.trim(t, 2)
	x.wantBytes(t, "\x00\x01\x02\x01\x02\x01\x02\x01\x07\x01\x01\x01\x03\x01\x01b\x00")
}

// P20.3: the greatest table, which is still a text.
func TestBytesGreat(t *testing.T) {
	x := made(t, 1)
	for n := range 1024 {
		var long []string
		for _, c := range "abcdefgh" {
			long = append(long, strings.Repeat(string(c), 24), strings.Repeat("\xff", 60)+strconv.Itoa(1000+n))
		}
		if e := x.put(t, of(series(strings.Repeat("z", 24), long...), 1)); e != api.OK {
			t.Fatalf("series %d: error %d", n, e)
		}
	}
	if x.again(t); len(x.i.Bytes()) < 1024*(24+8*(24+64)) {
		t.Errorf("%d bytes", len(x.i.Bytes()))
	}
}

// P20.3: four times that are valid, or not, each with points or without.
func TestReadTimes(t *testing.T) {
	one, few := text(table(series("cpu"))), []int64{0, 1, 2, 3, 4}
	count := 0
	for _, late := range few {
		for _, greatest := range few {
			for _, passed := range few {
				for _, floor := range few {
					head := times(late, greatest, passed, floor)
					x := tryRead(t, head+text(table()))
					if (x != nil) != (greatest+passed+floor == 0) {
						t.Errorf("%d %d %d %d, no series: read %t", late, greatest, passed, floor, x != nil)
					}
					for set := range 1 << len(few) {
						var l []int64
						for _, time := range few {
							if set>>time&1 == 1 {
								l = append(l, time)
							}
						}
						if x := tryRead(t, head+one+points(l...)); x != nil {
							count++
							x.next(t, 1)
							x.put(t, cpu(3))
							x.trim(t, passed)
							x.put(t, mem(5))
							x.next(t, 9)
							x.check(t)
						}
					}
				}
			}
		}
	}
	if count < 100 {
		t.Errorf("only %d intakes", count)
	}
}

// P20.3: times at their limits and beyond.
func TestReadLimits(t *testing.T) {
	limits := []int64{0, 1, 2, maxTime - 1, maxTime, maxTime + 1, 1 << 62, math.MaxInt64, math.MinInt64, -maxTime, -2, -1}
	one, count := text(table(series("cpu"))), 0
	for _, late := range limits {
		for _, greatest := range limits {
			for _, passed := range limits {
				for _, floor := range limits {
					head := times(late, greatest, passed, floor)
					for _, b := range []string{text(table()), one + points(), one + points(greatest), one + points(1, greatest), one + points(2, greatest, greatest+1)} {
						if tryRead(t, head+b) != nil {
							count++
						}
					}
				}
			}
		}
	}
	if count < 20 {
		t.Errorf("only %d intakes", count)
	}
}

// P20.3: points of two series: some may have none, if one is at the greatest time.
func TestReadPoints(t *testing.T) {
	two := times(2, 9, 6, 4) + text(table(series("cpu"), series("a", "b", "c")))
	for _, c := range []struct {
		first, second []int64
		is            bool
	}{
		{nil, nil, false}, {[]int64{9}, nil, true}, {nil, []int64{9}, true}, {[]int64{9}, []int64{9}, true}, {[]int64{5, 6, 7, 8, 9}, []int64{5}, true},
		{[]int64{8}, []int64{8}, false}, {[]int64{8}, nil, false}, {[]int64{5, 9}, []int64{5, 6}, true}, {[]int64{4, 9}, nil, false}, {[]int64{9}, []int64{4}, false},
		{[]int64{9, 8}, nil, false}, {[]int64{9, 9}, nil, false}, {[]int64{9}, []int64{7, 7}, false}, {[]int64{9}, []int64{7, 6}, false}, {[]int64{9}, []int64{6, 8, 7}, false},
		{[]int64{9, 10}, nil, false}, {[]int64{10}, nil, false}, {[]int64{9}, []int64{10}, false}, {[]int64{0, 9}, nil, false}, {[]int64{9}, []int64{-1}, false},
		{[]int64{5, 9}, []int64{6, 9}, true}, {[]int64{9, maxTime}, nil, false}, {[]int64{9}, []int64{maxTime + 1}, false},
	} {
		if x := tryRead(t, two+points(c.first...)+points(c.second...)); (x != nil) != c.is {
			t.Errorf("%d and %d: read %t", c.first, c.second, x != nil)
		}
	}
	bad(t, two+points(9))
	bad(t, two+points(9)+points(8)+points(7))
	bad(t, two+points(9)+points(8)+points())
}

// P20.3: tables that are not valid.
func TestReadTables(t *testing.T) {
	good := table(series("cpu"), series("m", "a", "x"))
	head, tail := times(0, 9, 3, 3), points(5, 9)+points(9)
	if tryRead(t, head+text(good)+tail) == nil {
		t.Error("a good table is not read")
	}
	bad(t, head+good+tail)
	bad(t, head+text("")+tail)
	bad(t, head+text("")+points(9))
	bad(t, times(0, 0, 0, 0)+text(""))
	bad(t, times(0, 0, 0, 0)+"\x00")
	bad(t, head+text(good+"\x00")+tail)
	bad(t, head+text(good[:len(good)-1])+tail)
	bad(t, head+text(table(series("cpu"), series("cpu")))+tail)
	bad(t, head+text(table(series("m", "a", "x"), series("m", "a", "x")))+tail)
	bad(t, head+text(table(series("cpu"), series("cpu"), series("m")))+tail+points())
	bad(t, head+text(table(series("cpu"), series("m"), series("x")))+tail)
	bad(t, head+text(table(series("cpu")))+tail)
	for _, s := range wrongs(1) {
		bad(t, head+text(table(series("m"), s.Series))+tail)
		bad(t, head+text(table(s.Series, series("m")))+tail)
	}
	bad(t, times(0, 0, 0, 0)+text(good)+points()+points())
	bad(t, times(0, 0, 0, 0)+text(table(series("m")))+points())
	bad(t, times(0, 9, 9, 9)+text(table()))
	bad(t, times(0, 9, 0, 0)+text(strings.Repeat("\x00", 1<<20)))
	bad(t, times(0, 9, 0, 0)+text(strings.Repeat("\x00", 1<<20+1)))
}

// P20.3: more series, or more points of one, than there may be.
func TestReadMany(t *testing.T) {
	for _, n := range []int{1023, 1024, 1025} {
		var l []api.Series
		for i := range n {
			l = append(l, nth(i))
		}
		b := times(0, 9, 3, 3) + text(table(l...)) + strings.Repeat(points(9), n)
		if x := tryRead(t, b); (x != nil) != (n <= 1024) {
			t.Errorf("%d series: read %t", n, x != nil)
		}
	}
	for _, n := range []int64{1<<16 - 1, 1 << 16, 1<<16 + 1} {
		var l []int64
		for i := range n {
			l = append(l, 2*i+5)
		}
		last := l[n-1]
		for _, b := range []string{
			times(maxTime, last, 0, 0) + text(table(series("cpu"))) + points(l...),
			times(maxTime, last+1, 0, 0) + text(table(series("mem"), series("cpu"))) + points(last+1) + points(l...),
		} {
			x := tryRead(t, b)
			if (x != nil) != (n <= 1<<16) {
				t.Errorf("%d points: read %t", n, x != nil)
			}
			if x != nil {
				x.put(t, cpu(6))
				x.put(t, cpu(8))
				x.check(t)
			}
		}
	}
}

// states returns intakes that have something.
func states(t *testing.T) []*pair {
	l := []*pair{
		made(t, 4), made(t, 300, cpu(5), mem(300), cpu(2)), made(t, 2, cpu(3), mem(4), of(series("m", "a", "x", "b", "yz"), 7), cpu(6)),
		made(t, 0, cpu(3)), made(t, 1, of(series("a"), 1), of(series("b", "a", "\x00"), 1<<39)), made(t, 1, cpu(9)),
	}
	for _, x := range l[2:5] {
		x.pass(t, x.i.Mark())
	}
	l[2].trim(t, 4)
	l[3].trim(t, 3)
	l[4].trim(t, 2)
	l[5].pass(t, 3)
	return l
}

// P20.3: bytes that are cut off, or have something behind them.
func TestReadCut(t *testing.T) {
	bad(t, "")
	if i, e := mark.Read(nil); i != nil || e != api.ErrBad {
		t.Errorf("read of nil: an intake %t, error %d", i != nil, e)
	}
	for _, x := range states(t) {
		b := string(x.i.Bytes())
		if tryRead(t, b) == nil {
			t.Errorf("%s is not read", short(b))
		}
		for n := range len(b) {
			bad(t, b[:n])
		}
		for _, more := range []string{"\x00", "\x01", "\x01\x01\x01\x07\x00", b} {
			bad(t, b+more)
		}
	}
}

// P20.3: each byte changed in each way: what is read has those bytes, and is what
// they say.
func TestReadChanged(t *testing.T) {
	count, size := 0, 0
	for _, x := range states(t) {
		b := string(x.i.Bytes())
		size += len(b)
		for i := range b {
			for c := range 256 {
				changed := []byte(b)
				changed[i] = byte(c)
				if tryRead(t, string(changed)) != nil {
					count++
				}
			}
		}
	}
	if count < 5*size {
		t.Errorf("only %d intakes of %d bytes", count, size)
	}
}

// P20.3: bytes changed, inserted or removed, in ways that look like chance.
func TestReadChance(t *testing.T) {
	d, count := dice(4), 0
	all := states(t)
	for range 20000 {
		for _, x := range all {
			b := []byte(x.r.bytes())
			for range 1 + d.of(3) {
				i := d.of(len(b))
				switch d.of(4) {
				case 0:
					b = slices.Delete(b, i, i+1)
				case 1:
					b = slices.Insert(b, i, byte(d.of(4)))
				case 2:
					b[i] = byte(d.of(256))
				case 3:
					b[i] += byte(d.of(3)) - 1
				}
				if len(b) == 0 {
					break
				}
			}
			if tryRead(t, string(b)) != nil {
				count++
			}
		}
	}
	if count < 1000 {
		t.Errorf("only %d intakes", count)
	}
}

// P20.3: numbers that are not written as they should be, at each place.
func TestReadNumbers(t *testing.T) {
	one := text(table(series("cpu")))
	good := 0
	for _, n := range []string{"", "\x00", "\x01\x01", "\x01\x02", "\x01\x03", "\x01\x04", "\x01\x05", "\x01\x07", "\x01\x08", "\x01\x0b", "\x01\xff", "\x02\x02\x00", "\x02\x00\x01", "\x02\x00\x10",
		"\x03\x00\x00\x01", "\x03\x01\x00\x01", "\x04\x02\x00\x00\x80", "\x05\x02\x00\x00\x00\x01", "\x05\x01\x00\x00\x00\x01", "\x06\x00\x00\x00\x00\x00\x01", "\x06\x01\x00\x00\x00\x00\x01", "\x08\x02\x00\x00\x00\x00\x00\x00\x80",
		"\x08\xff\xff\xff\xff\xff\xff\xff\xff", "\x08\x01\x00\x00\x00\x00\x00\x00\x80", "\x09", "\x09\x01\x01\x01\x01\x01\x01\x01\x01\x01", "\x01\x00", "\xff"} {
		for _, b := range []string{
			n + times(9, 4, 3, 2)[2:] + one + points(8, 9), whole(1) + n + whole(2) + whole(1) + one + points(3, 5), times(1, 7, 0, 0)[:4] + n + whole(1) + one + points(3, 7),
			times(1, 7, 4, 0)[:6] + n + one + points(5, 7), times(0, 7, 0, 0) + n + one[2:] + points(7), times(0, 7, 0, 0) + text(n+table(series("cpu"))[2:]) + points(7),
			times(0, 7, 0, 0) + text("\x01\x01"+n+key(series("cpu"))) + points(7), times(0, 7, 0, 0) + text("\x01\x01"+text(n+"cpu")) + points(7),
			times(0, 7, 0, 0) + one + n + points(7)[2:], times(0, 7, 0, 0) + one + "\x01\x01" + n + "\x00", times(0, 7, 0, 0) + one + "\x01\x01\x01\x07" + n,
			times(0, 7, 0, 0) + one + n + points(5, 7)[2:], times(0, 7, 0, 0) + one + "\x01\x02" + n + "\x00\x01\x07\x00", times(0, 0, 0, 0) + n, times(0, 0, 0, 0) + text(n),
		} {
			if tryRead(t, b) != nil {
				good++
			}
		}
	}
	if good < 20 {
		t.Errorf("only %d intakes", good)
	}
}

// T6: an intake that is read has the same bytes, and goes on in the same way.
func TestReadContinues(t *testing.T) {
	d := dice(5)
	for range 200 {
		x := made(t, d.to(0, 20))
		for range 30 {
			x.put(t, d.sample(x.r.mark()+10, 12))
			if d.of(4) == 0 {
				x.pass(t, d.to(x.r.passed, x.r.mark()))
			}
			if d.of(8) == 0 {
				x.trim(t, d.to(0, x.r.passed))
			}
			y := &pair{read(t, string(x.i.Bytes())), x.r.copied()}
			y.check(t)
			for range 5 {
				y.put(t, d.sample(y.r.mark()+10, 12))
			}
			y.next(t, d.of(9))
			y.pass(t, d.to(y.r.passed, y.r.mark()))
			y.trim(t, d.to(-1, y.r.passed+1))
			y.check(t)
			x.check(t)
		}
	}
}
