package group_test

import (
	"math"
	"slices"
	"strings"
	"testing"

	"waterwheel/api"
	"waterwheel/group"
)

// P15.2: the bytes of groups, given by hand.
func TestBytes(t *testing.T) {
	for want, x := range map[string]*pair{
		"\x01\x01\x00\x00":                        made(t, api.GrTotal),
		"\x01\x04\x01\x01\x01\x01a\x00":           made(t, api.GrMost, "a"),
		"\x01\x02\x01\x02\x01\x01a\x01\x02bc\x00": made(t, api.GrMany, "a", "bc"),
		"\x01\x03\x00\x01\x01\x00\x00\x00":        filled(t, api.GrLeast, nil, result(0)),
		"\x01\x03\x00\x01\x01\x00\x01":            filled(t, api.GrLeast, nil, over()),
		// Labels with longer names may come first, unlike their keys.
		"\x01\x01\x01\x01\x01\x01a\x01\x04" + "\x00\x00\x01\x05" + "\x01\x09\x01\x02aa\x01\x03xyz\x01" +
			"\x01\x06\x01\x01b\x01\x01x\x00\x01\x0e" + "\x01\x0c\x01\x01b\x01\x01x\x01\x01c\x01\x01\x00\x00\x02\x2c\x01": filled(t, api.GrTotal, []string{"a"},
			result(-3), over("aa", "xyz"), result(7, "b", "x"), result(150, "b", "x", "c", "\x00")),
	} {
		if s := string(x.g.Bytes()); s != want {
			t.Errorf("%q, not %q", s, want)
		}
		x.check(t)
		x.g = read(t, want)
		x.check(t)
	}
}

// P15.2: functions and names that a group has, or has not.
func TestReadNames(t *testing.T) {
	v := []api.Result{result(3), result(4, "a", "x")}
	for _, fn := range []uint64{0, 1, 2, 3, 4, 5, 6, 255, 1<<32 + 1, 1 << 63, math.MaxUint64} {
		for _, names := range someNames() {
			for _, v := range [][]api.Result{nil, v} {
				b := written(fn, names, v...)
				if fn < 1 || fn > 4 {
					bad(t, b)
					continue
				}
				x := &pair{read(t, b), reference{fn: int(fn), names: names, in: v}}
				x.check(t)
			}
		}
		for _, names := range noNames() {
			bad(t, written(fn, names))
			bad(t, written(fn, names, v...))
		}
	}
}

// P15.2: results that are a vector, or not.
func TestReadResults(t *testing.T) {
	for _, fn := range functions() {
		for _, v := range [][]api.Result{
			{result(math.MinInt64), result(math.MaxInt64, "a", "x"), over("a", "x", "b", "y"), result(0, "aa", "x"), result(-1, "b", strings.Repeat("\xff", 64))},
			{{Labels: eight()}}, {over(strings.Repeat("a", 24), "\x00")}, {result(7, "a", "y"), result(7, "a", "z")},
		} {
			x := &pair{read(t, written(uint64(fn), []string{"a"}, v...)), reference{fn: fn, names: []string{"a"}, in: v}}
			x.check(t)
			x.set(t, put(5, "a", "x"), gone("a", "y"))
			x.check(t)
		}
		for _, v := range [][]api.Result{
			{result(1), result(1)}, {result(1, "a", "x"), result(1)}, {result(1, "a", "x"), result(2, "a", "x")}, {result(1, "a", "y"), result(2, "a", "x")},
			{result(1), result(2, "b", "x"), result(3, "aa", "x")}, {result(1, "a", "y"), result(2, "a", "xx")}, {result(1, "a", "x", "b", "x"), result(1, "a", "x")},
			{result(1, "A", "x")}, {result(1, "", "x")}, {result(1, "a", "")}, {result(1, "a", strings.Repeat("x", 65))}, {result(1, strings.Repeat("a", 25), "x")},
			{result(1, "b", "x", "a", "x")}, {result(1, "a", "x", "a", "x")}, {result(1, "a", "x", "a", "y")},
			{{Labels: append(eight(), api.Label{Name: "i", Text: "x"})}}, {result(1), {Labels: slices.Repeat(eight(), 100)}},
		} {
			bad(t, written(uint64(fn), []string{"a"}, v...))
		}
	}
}

// P15.2: as many results as there may be, and more.
func TestReadLong(t *testing.T) {
	for _, fn := range functions() {
		x := &pair{read(t, written(uint64(fn), []string{"b"}, many(4096)...)), reference{fn: fn, names: []string{"b"}, in: many(4096)}}
		x.check(t)
		wantSetError(t, x, []api.Change{put(1)}, api.ErrLong)
		bad(t, written(uint64(fn), []string{"b"}, many(4097)...))
	}
}

// P15.2: bytes that are cut off, or have something behind them.
func TestReadCut(t *testing.T) {
	bad(t, "")
	if g, e := group.Read(nil); g != nil || e != api.ErrBad {
		t.Errorf("read of nil: a group %t, error %d", g != nil, e)
	}
	for _, x := range []*pair{
		made(t, api.GrMany),
		made(t, api.GrMost, "a", "aa", "b"),
		filled(t, api.GrTotal, []string{"a", "b"}, result(-300), over("a", "x"), result(math.MinInt64, "a", "x", "b", "yy"), result(0, "aa", "x")),
		filled(t, api.GrLeast, nil, result(1), over("b", "x")),
	} {
		b := x.r.bytes()
		x.g = read(t, b)
		x.check(t)
		for n := range len(b) {
			bad(t, b[:n])
		}
		for _, more := range []string{"\x00", "\x01", "\x00\x00\x00", "\x01\x06\x01\x01c\x01\x01x\x01", b} {
			bad(t, b+more)
		}
	}
}

// P15.2: each byte changed in each way: what is read has those bytes.
func TestReadChanged(t *testing.T) {
	b := filled(t, api.GrLeast, []string{"a", "bb"}, result(150), over("a", "x"), result(-1, "a", "x", "b", "yy"), result(math.MinInt64, "b", "x")).r.bytes()
	count := 0
	for i := range b {
		for c := range 256 {
			changed := []byte(b)
			changed[i] = byte(c)
			g, e := group.Read(changed)
			if (e != api.OK || g == nil) && (e != api.ErrBad || g != nil) {
				t.Fatalf("read of %q: a group %t, error %d", changed, g != nil, e)
			}
			if e != api.OK {
				continue
			}
			count++
			if again := string(g.Bytes()); again != string(changed) {
				t.Fatalf("read of %q has the bytes %q", changed, again)
			}
			x := pair{g, reference{fn: int(changed[1]), names: []string{string(changed[6:7]), string(changed[9:11])}, in: g.In()}}
			if len(changed) != len(b) || changed[0] != 1 || changed[3] != 2 {
				t.Fatalf("read of %q", changed)
			}
			x.check(t)
		}
	}
	if count < 10*256 {
		t.Errorf("only %d groups", count)
	}
}

// P15.2: fewer or more names or results than the bytes say, and numbers that are
// not written as they should be.
func TestReadCount(t *testing.T) {
	const first, second = "\x00\x00\x01\x02", "\x01\x06\x01\x01a\x01\x01x\x01"
	const begin = "\x01\x01\x01\x01\x01\x01a"
	x := &pair{read(t, begin+"\x01\x02"+first+second), reference{fn: 1, names: []string{"a"}, in: []api.Result{result(1), over("a", "x")}}}
	x.check(t)
	counts := []string{"\x00", "\x01\x01", "\x01\x03", "\x01\xff", "\x02\x02\x00", "\x02\x00\x10", "\x02\x01\x10", "\x04\x02\x00\x00\x80", "\x05\x02\x00\x00\x00\x01",
		"\x08\x02\x00\x00\x00\x00\x00\x00\x80", "\x08\xff\xff\xff\xff\xff\xff\xff\xff", "\x09", "\x01\x00"}
	for _, count := range counts {
		bad(t, begin+count+first+second)
	}
	for _, count := range counts[1:] {
		bad(t, begin+count)
	}
	for _, count := range append(counts[3:], "\x00", "\x01\x02", "\x01\x08", "\x01\x09") {
		bad(t, "\x01\x01"+count+"\x01\x01a\x01\x02"+first+second)
		bad(t, "\x01\x01"+count+"\x01\x01a")
	}
	for _, other := range []string{
		// Bools and values that are not written so, or have more behind them.
		"\x00\x00\x00\x00", "\x00\x02\x01\x02", "\x00\xff", "\x00\x01\x00", "\x00\x01\x01\x02",
		"\x00\x00\x02\x02\x00", "\x00\x00\x09\x02", "\x00\x00\x01\x00", "\x00\x00\x08\x02",
		// Keys with another length.
		"\x02\x00\x00\x00\x01\x02", "\x01\x00\x00\x01\x02", "\x01\x01\x00\x00\x01\x02", "\x09\x00",
		"\x03\x00\x00\x10" + strings.Repeat("\x00", 1<<20) + "\x00\x00", "\x03\x01\x00\x10" + strings.Repeat("\x00", 1<<20+1) + "\x00\x00",
		// Keys that are damaged.
		"\x01\x07\x02\x01\x00a\x01\x01x\x00\x00", "\x01\x07\x01\x01a\x01\x01x\x00\x00\x00", "\x01\x06\x01\x01a\x01\x02x\x00\x00",
		"\x01\x03\x01\x01a\x00\x00", "\x01\x05\x01\x01a\x01\x01x\x00\x00",
	} {
		bad(t, begin+"\x01\x01"+other)
	}
}
