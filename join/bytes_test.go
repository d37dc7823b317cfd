package join_test

import (
	"math"
	"slices"
	"strings"
	"testing"

	"waterwheel/api"
	"waterwheel/join"
)

// P16.2: the bytes of joins, given by hand.
func TestBytes(t *testing.T) {
	for want, x := range map[string]*pair{
		"\x01\x01\x00\x00\x00":                                     made(t, api.OpAdd),
		"\x01\x03\x01\x01\x01\x01a\x00\x00":                        made(t, api.OpMul, "a"),
		"\x01\x02\x01\x02\x01\x01a\x01\x02bc\x00\x00":              made(t, api.OpSub, "a", "bc"),
		"\x01\x03\x00\x01\x01\x00\x00\x00\x00":                     filled(t, api.OpMul, nil, []api.Result{result(0)}, nil),
		"\x01\x03\x00\x00\x01\x01\x00\x01":                         filled(t, api.OpMul, nil, nil, []api.Result{over()}),
		"\x01\x03\x00\x01\x01\x00\x00\x01\x02\x01\x01\x00\x01":     filled(t, api.OpMul, nil, []api.Result{result(1)}, []api.Result{over()}),
		"\x01\x01\x00\x01\x01\x00\x01\x01\x01\x00\x00\x01\x0c":     filled(t, api.OpAdd, nil, []api.Result{over()}, []api.Result{result(6)}),
		"\x01\x01\x00\x01\x01\x00\x00\x01\x01\x01\x01\x00\x00\x00": filled(t, api.OpAdd, nil, []api.Result{result(-1)}, []api.Result{result(0)}),
		// Labels with longer names may come first, unlike their keys.
		"\x01\x01\x01\x01\x01\x01a\x01\x03" + "\x00\x00\x01\x05" + "\x01\x09\x01\x02aa\x01\x03xyz\x01" + "\x01\x06\x01\x01b\x01\x01x\x00\x01\x0e" +
			"\x01\x02" + "\x01\x06\x01\x01b\x01\x01x\x00\x00" + "\x01\x0c\x01\x01b\x01\x01x\x01\x01c\x01\x01\x00\x00\x02\x2c\x01": filled(t, api.OpAdd, []string{"a"},
			[]api.Result{result(-3), over("aa", "xyz"), result(7, "b", "x")}, []api.Result{result(0, "b", "x"), result(150, "b", "x", "c", "\x00")}),
	} {
		if s := string(x.j.Bytes()); s != want {
			t.Errorf("%q, not %q", s, want)
		}
		x.check(t)
		x.j = read(t, want)
		x.check(t)
	}
}

// P16.2: operators and names that a join has, or has not.
func TestReadNames(t *testing.T) {
	v := []api.Result{result(3), result(4, "a", "x")}
	for _, op := range []uint64{0, 1, 2, 3, 4, 5, 6, 7, 8, 9, 10, 255, 1<<32 + 1, 1 << 63, 1<<63 + 1, math.MaxUint64} {
		for _, names := range someNames() {
			for _, in := range [][2][]api.Result{{}, {v, nil}, {nil, v}, {v, v}} {
				b := written(op, names, in[:]...)
				if op < 1 || op > 3 {
					bad(t, b)
					continue
				}
				x := &pair{read(t, b), reference{op: int(op), names: names, in: in}}
				x.check(t)
			}
		}
		for _, names := range noNames() {
			bad(t, written(op, names, nil, nil))
			bad(t, written(op, names, v, v))
		}
	}
}

// P16.2: results of a side that are a vector, or not.
func TestReadResults(t *testing.T) {
	good := []api.Result{result(1), result(5, "a", "x")}
	for side := 1; side <= 2; side++ {
		for _, v := range [][]api.Result{
			{result(math.MinInt64), result(math.MaxInt64, "a", "x"), over("a", "x", "b", "y"), result(0, "aa", "x"), result(-1, "b", strings.Repeat("\xff", 64))},
			{{Labels: eight()}}, {over(strings.Repeat("a", 24), "\x00")}, {result(7, "a", "y"), result(7, "a", "z")},
		} {
			x := &pair{r: reference{op: api.OpSub, names: []string{"a"}, in: [2][]api.Result{good, good}}}
			x.r.in[side-1] = v
			x.j = read(t, x.r.bytes())
			x.check(t)
			x.set(t, 1, put(5, "a", "x"), gone("a", "y"))
			x.set(t, 2, put(8, "a", "y"), gone("a", "x"))
			x.check(t)
		}
		for _, v := range [][]api.Result{
			{result(1), result(1)}, {result(1, "a", "x"), result(1)}, {result(1, "a", "x"), result(2, "a", "x")}, {result(1, "a", "y"), result(2, "a", "x")},
			{result(1), result(2, "b", "x"), result(3, "aa", "x")}, {result(1, "a", "y"), result(2, "a", "xx")}, {result(1, "a", "x", "b", "x"), result(1, "a", "x")},
			{result(1, "A", "x")}, {result(1, "", "x")}, {result(1, "a", "")}, {result(1, "a", strings.Repeat("x", 65))}, {result(1, strings.Repeat("a", 25), "x")},
			{result(1, "b", "x", "a", "x")}, {result(1, "a", "x", "a", "x")}, {result(1, "a", "x", "a", "y")},
			{{Labels: append(eight(), api.Label{Name: "i", Text: "x"})}}, {result(1), {Labels: slices.Repeat(eight(), 100)}},
		} {
			for _, other := range [][]api.Result{nil, good} {
				in := [][]api.Result{other, other}
				in[side-1] = v
				bad(t, written(api.OpSub, []string{"a"}, in...))
			}
		}
	}
}

// P16.2: as many results of a side as there may be, and more.
func TestReadLong(t *testing.T) {
	for _, in := range [][2][]api.Result{{many(4096), nil}, {nil, many(4096)}, {many(4096), many(4096)}} {
		x := &pair{r: reference{op: api.OpMul, names: []string{"a"}, in: in}}
		x.j = read(t, x.r.bytes())
		x.check(t)
		for i, v := range in {
			if len(v) > 0 {
				wantSetError(t, x, i+1, []api.Change{put(1)}, api.ErrLong)
			}
		}
	}
	for _, in := range [][][]api.Result{{many(4097), nil}, {nil, many(4097)}, {many(4096), many(4097)}, {many(4097), many(4096)}, {many(4097), many(4097)}} {
		bad(t, written(api.OpMul, []string{"a"}, in...))
	}
}

// P16.2: bytes that are cut off, or have something behind them.
func TestReadCut(t *testing.T) {
	bad(t, "")
	if j, e := join.Read(nil); j != nil || e != api.ErrBad {
		t.Errorf("read of nil: a join %t, error %d", j != nil, e)
	}
	v := []api.Result{result(-300), over("a", "x"), result(math.MinInt64, "a", "x", "b", "yy"), result(0, "aa", "x")}
	for _, x := range []*pair{
		made(t, api.OpSub),
		made(t, api.OpMul, "a", "aa", "b"),
		filled(t, api.OpAdd, []string{"a", "b"}, v, v[:3]),
		filled(t, api.OpMul, nil, v[:1], v[1:2]),
		filled(t, api.OpSub, nil, nil, v),
	} {
		b := x.r.bytes()
		x.j = read(t, b)
		x.check(t)
		for n := range len(b) {
			bad(t, b[:n])
		}
		for _, more := range []string{"\x00", "\x01", "\x00\x00\x00", "\x01\x06\x01\x01c\x01\x01x\x01", b} {
			bad(t, b+more)
		}
	}
}

// P16.2: each byte changed in each way: what is read has those bytes.
func TestReadChanged(t *testing.T) {
	v := []api.Result{result(150), over("a", "x"), result(-1, "a", "x", "b", "yy"), result(math.MinInt64, "b", "x")}
	b := filled(t, api.OpSub, []string{"a", "bb"}, v[:3], v[2:]).r.bytes()
	count := 0
	for i := range b {
		for c := range 256 {
			changed := []byte(b)
			changed[i] = byte(c)
			j, e := join.Read(changed)
			if (e != api.OK || j == nil) && (e != api.ErrBad || j != nil) {
				t.Fatalf("read of %q: a join %t, error %d", changed, j != nil, e)
			}
			if e != api.OK {
				continue
			}
			count++
			if again := string(j.Bytes()); again != string(changed) {
				t.Fatalf("read of %q has the bytes %q", changed, again)
			}
			if changed[0] != 1 || changed[3] != 2 {
				t.Fatalf("read of %q", changed)
			}
			names := []string{string(changed[6:7]), string(changed[9:11])}
			x := pair{j, reference{int(changed[1]), names, [2][]api.Result{j.In(1), j.In(2)}}}
			x.check(t)
		}
	}
	if count < 10*256 {
		t.Errorf("only %d joins", count)
	}
}

// P16.2: fewer or more names or results than the bytes say, and numbers that are
// not written as they should be.
func TestReadCount(t *testing.T) {
	const first, second = "\x00\x00\x01\x02", "\x01\x06\x01\x01a\x01\x01x\x01"
	const begin = "\x01\x01\x01\x01\x01\x01a"
	const two = "\x01\x02" + first + second
	v := []api.Result{result(1), over("a", "x")}
	x := &pair{read(t, begin+two+two), reference{op: 1, names: []string{"a"}, in: [2][]api.Result{v, v}}}
	x.check(t)
	counts := []string{"\x00", "\x01\x01", "\x01\x03", "\x01\xff", "\x02\x02\x00", "\x02\x00\x10", "\x02\x01\x10", "\x04\x02\x00\x00\x80", "\x05\x02\x00\x00\x00\x01",
		"\x08\x02\x00\x00\x00\x00\x00\x00\x80", "\x08\xff\xff\xff\xff\xff\xff\xff\xff", "\x09", "\x01\x00"}
	for _, count := range counts {
		bad(t, begin+count+first+second+two)
		bad(t, begin+two+count+first+second)
	}
	for _, count := range counts[1:] {
		bad(t, begin+count)
		bad(t, begin+count+"\x00")
		bad(t, begin+"\x00"+count)
	}
	for _, count := range append(counts[3:], "\x00", "\x01\x02", "\x01\x08", "\x01\x09") {
		bad(t, "\x01\x01"+count+"\x01\x01a"+two+two)
		bad(t, "\x01\x01"+count+"\x01\x01a")
	}
	for _, op := range []string{"\x00", "\x02\x01\x00", "\x01\x00", "\x09", "\x05\x01\x00\x00\x00\x01"} {
		bad(t, op+begin[2:]+two+two)
	}
	for _, other := range []string{
		// Bools and values that are not written so, or have more behind them.
		"\x00\x00\x00\x00", "\x00\x02\x01\x02", "\x00\xff", "\x00\x01\x00", "\x00\x01\x01\x02",
		"\x00\x00\x02\x02\x00", "\x00\x00\x09\x02", "\x00\x00\x01\x00", "\x00\x00\x08\x02",
		// Keys with another length.
		"\x02\x00\x00\x00\x01\x02", "\x01\x00\x00\x01\x02", "\x01\x01\x00\x00\x01\x02", "\x09\x00",
		"\x03\x00\x00\x10" + strings.Repeat("\x00", 1<<20) + "\x00\x00", "\x03\x01\x00\x10" + strings.Repeat("\x00", 1<<20+1) + "\x00\x00",
		// Keys that are damaged.
		"\x01\x07\x02\x01\x00a\x01\x01x\x00\x00", "\x01\x07\x01\x01a\x01\x01x\x00\x00\x00", "\x01\x06\x01\x01a\x01\x02x\x00\x00",
		"\x01\x03\x01\x01a\x00\x00", "\x01\x05\x01\x01a\x01\x01x\x00\x00",
	} {
		bad(t, begin+"\x01\x01"+other+"\x00")
		bad(t, begin+"\x00\x01\x01"+other)
		bad(t, begin+"\x01\x01"+other+two)
		bad(t, begin+two+"\x01\x01"+other)
	}
}
