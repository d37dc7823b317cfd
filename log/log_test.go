package log_test

import (
	"bytes"
	"fmt"
	"slices"
	"strings"
	"testing"

	"waterwheel/api"
	"waterwheel/files"
	"waterwheel/log"
)

// P23.1 to P23.4: the examples of the chapter.
func TestExample(t *testing.T) {
	x := made(t, 1000, "x")
	if l, e := x.open(t); len(l) != 0 || e != api.OK {
		t.Error(l, e)
	}
	for _, c := range []call{add("a", "b"), sync(), add("c"), crash(0)} {
		if x.do(t, c) != api.OK {
			t.Errorf("%+v: an error", c)
		}
	}
	if l, e := x.open(t); !slices.Equal(l, []string{"a", "b"}) || e != api.OK || x.l.Generation() != 1 {
		t.Error(l, e)
	}
	for _, c := range []call{next("y"), add("z"), sync()} {
		if x.do(t, c) != api.OK {
			t.Errorf("%+v: an error", c)
		}
	}
	if l, e := x.open(t); !slices.Equal(l, []string{"y", "z"}) || e != api.OK || x.l.Generation() != 2 {
		t.Error(l, e)
	}
	x.want(t, "x-2:y,z")
	for file, want := range map[string]int{"x-12": 12, "x-012": 0, "y-1": 0} {
		if n, is := log.Of("x", file); n != want || is != (want > 0) {
			t.Error(file, n, is)
		}
	}
}

// P23.2: disks that files.New did not make, then names that are not valid.
func TestOpenInvalid(t *testing.T) {
	d, _ := files.New(100)
	copied := *d
	for _, name := range []string{"x", "", "X", "abcdefghi"} {
		for _, d := range []*files.Disk{nil, {}, new(files.Disk), &copied} {
			if l, s, e := log.Open(d, name); l != nil || len(s) != 0 || e != api.ErrNil {
				t.Errorf("%q: error %d", name, e)
			}
		}
	}
	// An Open that is not valid is no operation: the fuse goes off later.
	d.Fuse(0)
	for _, name := range names() {
		if isName(name) {
			continue
		}
		if l, s, e := log.Open(d, name); l != nil || len(s) != 0 || e != api.ErrArg {
			t.Errorf("%q: error %d", name, e)
		}
	}
	if !d.On() || len(d.Names()) != 0 {
		t.Error("an Open that is not valid did something")
	}
	if l, s, e := log.Open(d, "x"); l != nil || len(s) != 0 || e != api.ErrOff || d.On() {
		t.Errorf("error %d", e)
	}
	if l, s, e := log.Open(d, "X"); l != nil || len(s) != 0 || e != api.ErrArg {
		t.Errorf("error %d", e)
	}
}

// P23.2: names at their limits, with logs that do not disturb one another.
func TestOpenNames(t *testing.T) {
	d, _ := files.New(10000)
	l := []string{"x", "xx", "tmp", "abcdefgh", "zzzzzzzz", "a"}
	for n := range 3 {
		for _, name := range l {
			x, s, e := log.Open(d, name)
			if e != api.OK || n > 0 && !slices.Equal(textsOf(s), []string{"first", name}) || x.Generation() != n+1 {
				t.Fatalf("%s: %q, error %d", name, s, e)
			}
			if x.Append([]byte("old")) != api.OK || x.Next([]byte("first"), []byte(name)) != api.OK || x.Generation() != n+2 {
				t.Fatal(name)
			}
		}
	}
	var want []string
	for _, name := range l {
		want = append(want, name+"-4:"+framed("first", name))
	}
	slices.Sort(want)
	if have := dump(t, d); !slices.Equal(have, want) {
		t.Errorf("%q", have)
	}
}

// P23.2: a log without a file, also if its name is that of a file, or something is left
// of a generation that was not written.
func TestOpenNew(t *testing.T) {
	for _, room := range []int{0, 1, 8, 1000} {
		x := made(t, room, "x")
		if l, e := x.open(t); len(l) != 0 || e != api.OK {
			t.Error(l, e)
		}
		x.want(t, "x-1:")
		if l, e := x.open(t); len(l) != 0 || e != api.OK || x.l.Generation() != 1 {
			t.Error(l, e)
		}
		// All is safe.
		x.do(t, crash(0))
		x.want(t, "x-1:")
	}
	x := made(t, 100, "x", putAll(framed("old"), "tmp-x", "x", "x-0", "x-01", "x-1000000", "xx-1")...)
	if l, e := x.open(t); len(l) != 0 || e != api.OK || x.l.Generation() != 1 {
		t.Error(l, e)
	}
	x.want(t, "x:old", "x-0:old", "x-01:old", "x-1:", "x-1000000:old", "xx-1:old")
}

// P23.2: of several generations the greatest is read, by its number; the others are
// removed, and so is what was not written.
func TestOpenOthers(t *testing.T) {
	x := made(t, 1000, "x", putAll(framed("old"), "x-2", "x-1", "x-9", "x-999", "x-10", "tmp-x", "tmp-y", "y-1", "y-1001", "x-01", "x-1000000")...)
	x.do(t, put("x-1000", framed("new", ""))...)
	if l, e := x.open(t); !slices.Equal(l, []string{"new", ""}) || e != api.OK || x.l.Generation() != 1000 || x.l.Size() != 19 || x.l.Count() != 2 {
		t.Error(l, e)
	}
	x.want(t, "tmp-y:old", "x-01:old", "x-1000:new,", "x-1000000:old", "y-1:old", "y-1001:old")
	// The names are safe.
	x.do(t, crash(0))
	if len(x.d.Names()) != 6 {
		t.Error(x.d.Names())
	}
}

// P23.2: others are removed by ascending generation, then what was not written: so many
// as the fuse allows, and so many as a crash keeps.
func TestOpenOrder(t *testing.T) {
	order := []string{"x-2", "x-9", "x-10", "x-100", "x-999", "tmp-x"}
	for _, last := range []string{"x-1000", "x-999999"} {
		for n := range len(order) + 1 {
			want := slices.Sorted(slices.Values(append([]string{last}, order[n:]...)))
			x := made(t, 1000, "x", putAll(framed("a"), "x-10", "x-2", "x-999", "x-100", "tmp-x", "x-9", last)...)
			x.do(t, fuse(1+n))
			if _, e := x.open(t); e != api.ErrOff || !slices.Equal(x.d.Names(), want) {
				t.Errorf("fuse %d: %q, error %d", 1+n, x.d.Names(), e)
			}
			x = made(t, 1000, "x", putAll(framed("a"), "x-10", "x-2", "x-999", "x-100", "tmp-x", "x-9", last)...)
			x.do(t, crash(7, 9, 9, 9, 9, 9, 9, 9), fuse(1+len(order)), open(), crash(n))
			if !slices.Equal(x.d.Names(), want) {
				t.Errorf("%d are removed: %q", n, x.d.Names())
			}
		}
	}
}

// P23.2: each operation of the Open of a file that is torn: what there is when the fuse
// goes off instead of it.
func TestOpenTornOrder(t *testing.T) {
	b := framed("a", "bc")
	for n, want := range []string{
		"tmp-x:1 x-1:0 x-3:20", // no Read
		"tmp-x:1 x-1:0 x-3:20", // no Remove
		"x-1:0 x-3:20",         // no Make
		"tmp-x:0 x-1:0 x-3:20", // no Append
		"tmp-x:19 x-1:0 x-3:20",
		"tmp-x:19 x-1:0 x-3:20", // synced, but without a Rename
		"x-1:0 x-3:20 x-4:19",
		"x-1:0 x-3:20 x-4:19", // names are safe
		"x-3:20 x-4:19",
		"x-4:19", // names are not safe
		"x-4:19",
	} {
		x := made(t, 1000, "x", slices.Concat([]call{create("x-1")}, put("tmp-x", "q"), put("x-3", b+"z"), []call{fuse(n)})...)
		_, e := x.open(t)
		if (e == api.ErrOff) != (n < 10) {
			t.Errorf("fuse %d: error %d", n, e)
		}
		var have []string
		for _, s := range x.d.Names() {
			have = append(have, fmt.Sprintf("%s:%d", s, x.d.Size(s)))
		}
		if strings.Join(have, " ") != want {
			t.Errorf("fuse %d: %q, not %q", n, have, want)
		}
	}
}

// P23.2: an Open of a log that is whole and alone only reads: it makes nothing safe.
func TestOpenSyncsNothing(t *testing.T) {
	x := made(t, 1000, "x", open(), add("a"), sync(), add("b"), create("other"))
	if l, e := x.open(t); !slices.Equal(l, []string{"a", "b"}) || e != api.OK {
		t.Error(l, e)
	}
	x.do(t, crash(0))
	x.want(t, "x-1:a")
	// One Read is enough.
	x.do(t, fuse(1))
	if l, e := x.open(t); !slices.Equal(l, []string{"a"}) || e != api.OK || !x.d.On() {
		t.Error(l, e)
	}
	if _, e := x.open(t); e != api.ErrOff || x.d.On() {
		t.Error(e)
	}
}

// P23.2: a file that is torn at each byte, alone and with others.
func TestOpenTorn(t *testing.T) {
	b := framed("a", "", "bcd")
	for n := range len(b) + 1 {
		for _, more := range [][]call{nil, putAll("no frames", "x-1", "x-3", "tmp-x")} {
			x := made(t, 1000, "x", more...)
			x.do(t, put("x-4", b[:n])...)
			l, e := x.open(t)
			want, whole, _ := scanned(b[:n])
			generation := 4
			if whole < n {
				generation = 5
			}
			if !slices.Equal(l, want) || e != api.OK || x.l.Generation() != generation || x.l.Size() != whole || x.l.Count() != len(want) {
				t.Fatalf("%d bytes: %q, error %d", n, l, e)
			}
			x.want(t, fmt.Sprintf("x-%d:%s", generation, strings.Join(want, ",")))
			if x.do(t, add("new")) != api.OK {
				t.Fatal("no Append")
			}
			if again, e := x.open(t); !slices.Equal(again, append(l, "new")) || e != api.OK || x.l.Generation() != generation {
				t.Fatalf("%q, error %d", again, e)
			}
		}
	}
}

// P23.2: a file that is bad is left as it is, with all others.
func TestOpenBad(t *testing.T) {
	b := framed("a", "bc")
	for _, bad := range []string{b[:18] + "x", b + "\x01\x00\x40\x00", "\xff\xff\xff\xff" + b, b + strings.Repeat("\x00", 8), b + strings.Repeat("\x00", 8) + b, b[:4] + "x" + b[5:]} {
		for _, file := range []string{"x-3", "x-999999"} {
			x := made(t, 1000, "x", putAll(b, "x-1", "x-2", "tmp-x")...)
			x.do(t, put(file, bad)...)
			before := dump(t, x.d)
			x.do(t, fuse(1))
			if l, e := x.open(t); len(l) != 0 || e != api.ErrBad || !x.d.On() {
				t.Errorf("%q: %q, error %d", bad, l, e)
			}
			x.do(t, fuse(-1))
			if l := dump(t, x.d); !slices.Equal(l, before) {
				t.Errorf("%q: %q", bad, l)
			}
		}
	}
	// Others are not read.
	x := made(t, 1000, "x", putAll("\xff\xff\xff\xff", "x-1", "x-2", "tmp-x")...)
	x.do(t, put("x-10", b)...)
	if l, e := x.open(t); len(l) != 2 || e != api.OK {
		t.Errorf("%q, error %d", l, e)
	}
	x.want(t, "x-10:a,bc")
}

// P23.2, P23.3: after generation 999,999 there is none.
func TestLastGeneration(t *testing.T) {
	b := framed("a", "bc")
	x := made(t, 1000, "x", putAll(b, "x-1", "tmp-x")...)
	x.do(t, put("x-999999", b[:12])...)
	before := dump(t, x.d)
	x.do(t, fuse(1))
	if l, e := x.open(t); len(l) != 0 || e != api.ErrLong || !x.d.On() {
		t.Errorf("%q, error %d", l, e)
	}
	x.do(t, fuse(-1))
	if l := dump(t, x.d); !slices.Equal(l, before) {
		t.Errorf("%q", l)
	}
	x.do(t, addBytes("x-999999", b[12:]))
	if l, e := x.open(t); len(l) != 2 || e != api.OK || x.l.Generation() != 999999 {
		t.Errorf("%q, error %d", l, e)
	}
	x.want(t, "x-999999:a,bc")
	x.do(t, fuse(0))
	if x.do(t, next("y")) != api.ErrLong || x.do(t, next()) != api.ErrLong || !x.d.On() || x.l.Err() != api.OK {
		t.Error("a generation after the last one")
	}
	// This error comes before that by which the log is broken, after that of a record.
	if x.do(t, add("d")) != api.ErrOff || x.do(t, next("y")) != api.ErrLong || x.do(t, add("d")) != api.ErrOff || x.do(t, sync()) != api.ErrOff || x.l.Err() != api.ErrOff {
		t.Error("another error")
	}
	x.do(t, crash(0))
	x = made(t, 1000, "x", put("x-999998", b[:12])...)
	if l, e := x.open(t); len(l) != 1 || e != api.OK || x.l.Generation() != 999999 || x.do(t, next("y")) != api.ErrLong {
		t.Errorf("%q, error %d", l, e)
	}
	x = made(t, 1000, "x", put("x-999998", b)...)
	if x.do(t, open(), next("y")) != api.OK || x.l.Generation() != 999999 || x.do(t, next("y")) != api.ErrLong {
		t.Error("no last generation")
	}
	x.want(t, "x-999999:y")
}

// P23.3: what Append, Sync and Next do, and how many operations they are.
func TestOperations(t *testing.T) {
	for _, c := range []struct {
		call call
		n    int
		want string
	}{
		{add("b"), 1, "x-1:a,b"},
		{add("b", "", "c"), 1, "x-1:a,b,,c"},
		{add(""), 1, "x-1:a,"},
		{add(), 0, "x-1:a"},
		{sync(), 1, "x-1:a"},
		{next("b"), 6, "x-2:b"},
		{next("b", "", "c"), 6, "x-2:b,,c"},
		{next(), 6, "x-2:"},
	} {
		x := made(t, 1000, "x", open(), add("a"), fuse(c.n))
		if x.do(t, c.call) != api.OK || !x.d.On() {
			t.Fatalf("%+v: more operations", c.call)
		}
		x.do(t, fuse(-1))
		x.want(t, c.want)
		for n := range c.n {
			x := made(t, 1000, "x", open(), add("a"), fuse(n))
			if x.do(t, c.call) != api.ErrOff || x.d.On() || x.l.Err() != api.ErrOff {
				t.Fatalf("%+v: fewer operations", c.call)
			}
		}
	}
	// A file that is left of a generation is removed.
	x := made(t, 1000, "x", open(), create("tmp-x"), addBytes("tmp-x", "old"), fuse(7))
	if x.do(t, next("a")) != api.OK || !x.d.On() {
		t.Error("no Next")
	}
	x.do(t, fuse(-1))
	x.want(t, "x-2:a")
	// A file of the next generation is replaced.
	x = made(t, 1000, "x", open())
	x.do(t, put("x-2", "old")...)
	if x.do(t, next("b")) != api.OK {
		t.Error("no Next")
	}
	x.want(t, "x-2:b")
}

// P23.3: what is appended is safe after a Sync, not before; what is in a Next is safe.
func TestSafe(t *testing.T) {
	x := made(t, 1000, "x", open(), add("a"), sync(), add("b", "c"), crash(0))
	x.want(t, "x-1:a")
	x = made(t, 1000, "x", open(), add("a"), sync(), add("b", "c"), crash(0, 9), open())
	x.want(t, "x-1:a,b")
	x = made(t, 1000, "x", open(), add("a"), next("b", "c"), add("d"), crash(0))
	// The old file is there again, until an Open.
	x.want(t, "x-1:", "x-2:b,c")
	x.do(t, open())
	x.want(t, "x-2:b,c")
}

// P23.3: without arguments nothing is done.
func TestAppendNothing(t *testing.T) {
	x := made(t, 9, "x", open(), add("a"))
	if x.do(t, add()) != api.OK || x.do(t, fuse(0)) != api.OK || x.do(t, add()) != api.OK || !x.d.On() {
		t.Error("an operation")
	}
	if x.l.Append([][]byte{}...) != api.OK || !x.d.On() || x.l.Count() != 1 {
		t.Error("an operation")
	}
	if x.do(t, add("")) != api.ErrOff || x.do(t, add()) != api.ErrOff {
		t.Error("not broken")
	}
	// A disk without power does not matter either.
	x = made(t, 9, "x", open(), fuse(0), create("b"))
	if x.d.On() || x.do(t, add()) != api.OK || x.l.Err() != api.OK {
		t.Error("broken")
	}
}

// P23.3: a record that is too long has no effect, and its error comes first.
func TestTooLong(t *testing.T) {
	long := strings.Repeat("x", api.MaxFrame+1)
	most := long[1:]
	x := made(t, api.MaxDisk, "x", open(), add("a"))
	for range 2 {
		for _, c := range []call{add(long), add("b", long), add(long, "b"), next(long), next("b", long), add(long, long)} {
			if x.do(t, c) != api.ErrLong || x.d.On() && x.l.Err() != api.OK || x.l.Count() != 1 || x.l.Generation() != 1 {
				t.Error("no ErrLong")
			}
		}
		// Again, with a log that is broken.
		x.do(t, fuse(0), sync())
	}
	x.do(t, crash(0, 9), open())
	x.want(t, "x-1:a")
	if x.do(t, add(most, "b", most)) != api.OK || x.do(t, next("c", most)) != api.OK || x.l.Size() != 9+8+api.MaxFrame {
		t.Error("a record of MaxFrame bytes")
	}
	if l, e := x.open(t); e != api.OK || !slices.Equal(l, []string{"c", most}) {
		t.Error(e)
	}
}

// P23.3: a disk that is full breaks a log, until it is opened again.
func TestFull(t *testing.T) {
	x := made(t, 30, "x", open(), add("a"))
	if x.do(t, add("0123456789", "0123456789")) != api.ErrFull || x.l.Count() != 1 || x.l.Size() != 9 {
		t.Error("no ErrFull")
	}
	for _, c := range []call{add("b"), add(), sync(), next("b"), next()} {
		if x.do(t, c) != api.ErrFull || x.l.Err() != api.ErrFull {
			t.Errorf("%+v: not broken", c)
		}
	}
	x.want(t, "x-1:a")
	if x.do(t, open(), add("b"), add("1234")) != api.OK || x.d.Left() != 0 || x.do(t, add("")) != api.ErrFull {
		t.Error("another room")
	}
	// A Next needs room for both files; what is left of it is removed by an Open.
	if x.do(t, open(), next("b")) != api.ErrFull || x.l.Generation() != 1 || x.l.Count() != 3 {
		t.Error("a Next without room")
	}
	x.want(t, "tmp-x:", "x-1:a,b,1234")
	if l, e := x.open(t); e != api.OK || len(l) != 3 {
		t.Error(l, e)
	}
	x.want(t, "x-1:a,b,1234")
	if x.do(t, next()) != api.OK {
		t.Error("no room for nothing")
	}
	// There is no room to repair a file that is torn.
	x = made(t, 19, "x", put("x-1", framed("a")+"\x00\x00")...)
	if l, e := x.open(t); e != api.ErrFull || len(l) != 0 {
		t.Error(l, e)
	}
	if _, e := x.open(t); e != api.ErrFull || len(x.d.Names()) != 2 {
		t.Error(e)
	}
}

// P23.3: the first error stays, also after others and after a crash.
func TestBroken(t *testing.T) {
	x := made(t, 20, "x", open(), add("a"), add("0123456789"))
	if x.l.Err() != api.ErrFull {
		t.Error(x.l.Err())
	}
	x.do(t, fuse(0), create("b"))
	for _, c := range []call{sync(), add("b"), next(), crash(0), sync(), add("b"), next()} {
		if e := x.do(t, c); c.kind != doCrash && e != api.ErrFull {
			t.Errorf("%+v: error %d", c, e)
		}
	}
	// A file that somebody else removed.
	for _, c := range []call{sync(), add("b"), next("b")} {
		x = made(t, 20, "x", open(), add("a"), remove("x-1"))
		if x.do(t, c) != api.ErrNone || x.do(t, add("b")) != api.ErrNone || x.do(t, create("x-1")) != api.OK || x.do(t, sync()) != api.ErrNone {
			t.Errorf("%+v: no ErrNone", c)
		}
	}
	// The generation is the next one, although the last one was not removed.
	if x.l.Generation() != 2 || x.l.Count() != 1 || x.l.Size() != 9 {
		t.Error("not the next generation")
	}
	x = made(t, 20, "x", open(), add("a"), fuse(5))
	if x.do(t, next()) != api.ErrOff || x.l.Generation() != 2 || x.l.Count() != 0 || x.l.Size() != 0 {
		t.Error("not the next generation")
	}
	x = made(t, 20, "x", open(), add("a"), fuse(4))
	if x.do(t, next()) != api.ErrOff || x.l.Generation() != 1 || x.l.Count() != 1 || x.l.Size() != 9 {
		t.Error("not the last generation")
	}
}

// P23.4: what a log tells of itself, after each call.
func TestTells(t *testing.T) {
	x := made(t, 1000, "x", open())
	tells := func(generation, size, count int) {
		t.Helper()
		if x.l.Generation() != generation || x.l.Size() != size || x.l.Count() != count || x.l.Err() != api.OK {
			t.Error(x.l.Generation(), x.l.Size(), x.l.Count(), x.l.Err())
		}
	}
	tells(1, 0, 0)
	for n := range 20 {
		x.do(t, add("", "ab"))
		tells(1, 18*(n+1), 2*(n+1))
		x.do(t, sync(), add(), open())
		tells(1, 18*(n+1), 2*(n+1))
	}
	x.do(t, next("abc"))
	tells(2, 11, 1)
	x.do(t, next())
	tells(3, 0, 0)
	x.do(t, next("", ""), add("c"))
	tells(4, 25, 3)
	x.do(t, addBytes("x-4", "\x01\x00\x00\x00"))
	tells(4, 29, 3)
	x.do(t, open())
	tells(5, 25, 3)
}

// Rule 7: logs that Open did not return.
func TestInvalid(t *testing.T) {
	d, _ := files.New(1000)
	made, _, _ := log.Open(d, "x")
	made.Append([]byte("a"))
	copied := *made
	long := make([]byte, api.MaxFrame+1)
	for _, l := range []*log.Log{nil, {}, new(log.Log), &copied} {
		for _, e := range []api.Errno{l.Append(), l.Append(nil), l.Append([]byte("b")), l.Append(long), l.Sync(), l.Next(), l.Next([]byte("b")), l.Next(long), l.Err()} {
			if e != api.ErrNil {
				t.Errorf("error %d", e)
			}
		}
		if l.Generation() != 0 || l.Size() != 0 || l.Count() != 0 {
			t.Error("an invalid log has something")
		}
	}
	if made.Generation() != 1 || made.Size() != 9 || made.Count() != 1 || made.Err() != api.OK || len(d.Names()) != 1 {
		t.Error("another log changed")
	}
}

// P23.2, P23.3: many generations, and many records, on the greatest disk.
func TestMany(t *testing.T) {
	d, _ := files.New(api.MaxDisk)
	l, _, _ := log.Open(d, "x")
	for n := range 3000 {
		if l.Next([]byte(fmt.Sprint(n))) != api.OK || l.Append([]byte("a"), nil) != api.OK || l.Generation() != n+2 || l.Count() != 3 {
			t.Fatal(n)
		}
	}
	part := bytes.Repeat([]byte{5}, 1000)
	for n := range 30000 {
		if l.Append(part, part) != api.OK || l.Count() != 2*n+5 || l.Size() != 29+(n+1)*2016 {
			t.Fatal(n, l.Count(), l.Size(), l.Err())
		}
	}
	l.Sync()
	d.Crash(0, nil)
	l, s, e := log.Open(d, "x")
	if e != api.OK || len(s) != 60003 || !bytes.Equal(s[60002], part) || l.Size() != d.Size("x-3001") || len(d.Names()) != 1 {
		t.Error(len(s), e)
	}
	// Ten thousand files of the log.
	for n := range 10000 {
		d.Make(fmt.Sprintf("x-%d", 5000+n))
	}
	l, s, e = log.Open(d, "x")
	if e != api.OK || len(s) != 0 || l.Generation() != 14999 || len(d.Names()) != 1 {
		t.Error(len(s), e)
	}
}
