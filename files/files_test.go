package files_test

import (
	"fmt"
	"math"
	"slices"
	"strings"
	"testing"

	"waterwheel/api"
	"waterwheel/files"
)

// longest is a name of 24 bytes.
const longest = "abcdefghijklmnopqrstuvwx"

// limits are numbers of things at the limits of numbers.
func limits() []int {
	return []int{math.MinInt, math.MinInt + 1, -2, -1, 0, 1, 2, 3, 1 << 32, math.MaxInt - 1, math.MaxInt}
}

// P22.2, P22.3: the examples of the chapter.
func TestExample(t *testing.T) {
	x := made(t, 100, create("a"), add("a", "xy"), sync("a"), syncNames(), add("a", "z"), crash(0, 1))
	x.want(t, "a:xyz")
	x.do(t, create("b"), add("b", "q"), sync("b"), rename("b", "a"), crash(1))
	x.want(t, "a:xyz", "b:q")
	x.do(t, rename("b", "a"), crash(1))
	x.want(t, "a:q")
	if x.do(t, fuse(0), read("a")) != api.ErrOff || x.d.On() {
		t.Error("the fuse did not go off")
	}
}

// P22.1: rooms, at their limits.
func TestNew(t *testing.T) {
	for _, room := range []int{0, 1, 100, 1<<26 - 1, 1 << 26} {
		x := made(t, room)
		x.check(t)
		if x.d.Left() != room || !x.d.On() || len(x.d.Names()) != 0 {
			t.Errorf("room %d: %d left", room, x.d.Left())
		}
		if x.do(t, create("a"), add("a", "")) != api.OK {
			t.Error("no file")
		}
		want := api.OK
		if room == 0 {
			want = api.ErrFull
		}
		if x.do(t, add("a", "x")) != want {
			t.Errorf("room %d: no error %d", room, want)
		}
	}
	for _, room := range []int{math.MinInt, -1 << 26, -1, 1<<26 + 1, 1 << 32, math.MaxInt} {
		if d, e := files.New(room); d != nil || e != api.ErrArg {
			t.Errorf("room %d: a disk %t, error %d", room, d != nil, e)
		}
	}
}

// P22.2: the greatest disk, and a file that has all of it.
func TestFull(t *testing.T) {
	for _, room := range []int{1, 2, 100, api.MaxDisk} {
		d, _ := files.New(room)
		d.Make("a")
		d.Make("b")
		d.Append("b", []byte{1})
		all := make([]byte, room)
		all[room-1] = 7
		if e := d.Append("a", all); e != api.ErrFull || d.Size("a") != 0 || d.Left() != room-1 {
			t.Errorf("room %d: error %d, %d left", room, e, d.Left())
		}
		if e := d.Append("a", all[1:]); e != api.OK || d.Left() != 0 || d.Size("a") != room-1 {
			t.Errorf("room %d: error %d, %d left", room, e, d.Left())
		}
		if d.Append("a", []byte{1}) != api.ErrFull || d.Append("a", nil) != api.OK || d.Make("c") != api.OK || d.Append("c", nil) != api.OK {
			t.Errorf("room %d: other errors of a full disk", room)
		}
		if d.Remove("b") != api.OK || d.Left() != 1 || d.Append("a", []byte{9}) != api.OK || d.Left() != 0 {
			t.Errorf("room %d: %d left", room, d.Left())
		}
		if b, e := d.Read("a"); e != api.OK || len(b) != room || b[room-1] != 9 || room > 1 && b[room-2] != 7 {
			t.Errorf("room %d: %d bytes, error %d", room, len(b), e)
		}
	}
}

// P22.1: each byte, at each place of a name, and lengths.
func TestName(t *testing.T) {
	for c := range 256 {
		b := string([]byte{byte(c)})
		for _, s := range []string{b, "a" + b, b + "a", "a" + b + "a", b + b, "." + b + "-0", longest[1:] + b, b + longest[1:]} {
			if files.Name(s) != isName(s) {
				t.Errorf("%q is a name: %t", s, files.Name(s))
			}
		}
	}
	for n := range 60 {
		if s := strings.Repeat("z", n); files.Name(s) != (n >= 1 && n <= 24) {
			t.Errorf("%d bytes are a name: %t", n, files.Name(s))
		}
	}
	for _, s := range []string{"a", "z", "0", "9", "-", ".", "..", "wheel-12", "tmp-wheel", longest} {
		if !files.Name(s) {
			t.Errorf("%q is no name", s)
		}
	}
	for _, s := range []string{"", " ", "a b", "A", "a_b", "a/b", "é", "a\xff", "a\x00", "\u2028", strings.Repeat("é", 12), longest + "y"} {
		if files.Name(s) {
			t.Errorf("%q is a name", s)
		}
	}
}

// named returns each operation that has a name, with this one, and with others that
// are valid.
func named(name string) []call {
	return []call{
		create(name), add(name, ""), add(name, "x"), add(name, strings.Repeat("x", 500)), sync(name), remove(name), read(name),
		rename(name, "a"), rename("a", name), rename(name, name), rename(name, "new"), rename("nobody", name),
	}
}

// P22.2: names that are not valid. They have no effect, and no fuse counts them.
func TestErrArg(t *testing.T) {
	for _, name := range []string{"", "A", "a_", "a b", "a\x00", longest + "y", strings.Repeat("a", 1000)} {
		x := made(t, 100, create("a"), add("a", "xy"), create("b"), add("b", "z"), fuse(1))
		for range 2 {
			for _, c := range named(name) {
				if x.do(t, c) != api.ErrArg {
					t.Errorf("%+v: no ErrArg", c)
				}
			}
		}
		if x.do(t, sync("a")) != api.OK || x.do(t, sync("a")) != api.ErrOff {
			t.Error("the fuse counted a name that is not valid")
		}
		for _, c := range named(name) {
			if x.do(t, c) != api.ErrArg {
				t.Errorf("%+v of a disk that is off: no ErrArg", c)
			}
		}
		x.do(t, crash(2, 2, 1))
		x.want(t, "a:xy", "b:z")
	}
}

// P22.2: files that are not there, or are there already.
func TestErrNone(t *testing.T) {
	x := made(t, 3, create("a"), add("a", "xyz"), create("b"))
	for _, c := range []call{sync("c"), remove("c"), read("c"), add("c", ""), add("c", "x"), add("c", "xyzxyz"), rename("c", "a"), rename("c", "d"), rename("c", "c")} {
		if x.do(t, c) != api.ErrNone {
			t.Errorf("%+v: no ErrNone", c)
		}
	}
	if x.do(t, create("a")) != api.ErrThere || x.do(t, create("b")) != api.ErrThere {
		t.Error("no ErrThere")
	}
	if x.do(t, add("b", "x")) != api.ErrFull || x.do(t, add("b", "")) != api.OK || x.do(t, add("a", "x")) != api.ErrFull {
		t.Error("no ErrFull")
	}
	x.want(t, "a:xyz", "b:")
	x.do(t, remove("a"))
	for _, c := range named("a") {
		if c.kind != doMake && c.name == "a" && x.do(t, c) != api.ErrNone {
			t.Errorf("%+v: no ErrNone of a file that was removed", c)
		}
	}
	// What had no effect is no change of names.
	x.do(t, crash(2))
	x.want(t, "a:", "b:")
}

// operations are all kinds of operations with valid names: those that have an effect
// on a disk with an a of two bytes and an empty b and three bytes left, and others.
func operations() []call {
	return []call{
		create("c"), create("a"), add("a", "z"), add("a", ""), add("c", "z"), add("a", "zzzz"), sync("a"), sync("c"), syncNames(), rename("a", "b"),
		rename("a", "c"), rename("a", "a"), rename("c", "a"), remove("a"), remove("c"), read("a"), read("c"),
	}
}

// P22.2, P22.3: a fuse counts each operation, with or without an error. Where it goes
// off, nothing is done, until a crash.
func TestFuse(t *testing.T) {
	for _, first := range operations() {
		for _, last := range operations() {
			for n := range 5 {
				x := made(t, 5, create("a"), create("b"), add("a", "xy"), fuse(n))
				for range n {
					if x.do(t, first) == api.ErrOff || !x.d.On() {
						t.Fatalf("%+v, fuse %d: too early", first, n)
					}
				}
				for range 3 {
					names, left := x.d.Names(), x.d.Left()
					if x.do(t, last) != api.ErrOff || x.d.On() || !slices.Equal(x.d.Names(), names) || x.d.Left() != left {
						t.Fatalf("%+v, fuse %d: the fuse did not go off", last, n)
					}
				}
				if x.do(t, syncNames()) != api.ErrOff || x.do(t, crash(9, 9, 9, 9)) != api.OK || !x.d.On() {
					t.Fatal("off after a crash")
				}
				x.reads(t)
			}
		}
	}
}

// P22.3: there is one fuse, a number below 0 removes it, and so does a crash. One that
// went off is not undone by another one.
func TestFuses(t *testing.T) {
	reads := func(n int) []call { return slices.Repeat([]call{read("a")}, n) }
	for _, n := range limits() {
		x := made(t, 9, create("a"), fuse(0), fuse(n))
		if n >= 0 && n < 4 {
			if x.do(t, reads(n)...) != api.OK || x.do(t, reads(1)...) != api.ErrOff {
				t.Errorf("fuse %d", n)
			}
			continue
		}
		if x.do(t, reads(20)...) != api.OK || x.do(t, fuse(3)) != api.OK || x.do(t, reads(3)...) != api.OK || x.do(t, reads(1)...) != api.ErrOff {
			t.Errorf("fuse %d", n)
		}
		if x.do(t, fuse(n)) != api.OK || x.do(t, reads(2)...) != api.ErrOff || x.d.On() {
			t.Errorf("on again by fuse %d", n)
		}
		if x.do(t, crash(1), read("a")) != api.OK || x.do(t, reads(20)...) != api.OK {
			t.Errorf("fuse %d after a crash", n)
		}
		if x.do(t, fuse(2), fuse(n), crash(0)) != api.OK || x.do(t, reads(20)...) != api.OK {
			t.Errorf("fuse %d is still there after a crash", n)
		}
	}
	x := made(t, 9, create("a"), fuse(0), crash(1))
	if x.do(t, reads(5)...) != api.OK {
		t.Error("a fuse is still there after a crash")
	}
	// What only looks is no operation, and works without power.
	x = made(t, 9, create("a"), add("a", "x"), fuse(0))
	for range 20 {
		x.check(t)
	}
	x.do(t, read("a"))
	if !slices.Equal(x.d.Names(), []string{"a"}) || x.d.Size("a") != 1 || x.d.Left() != 8 {
		t.Error("another disk without power")
	}
}

// P22.3: numbers of names and parts at their limits: below 0 it is 0, otherwise modulo
// one more than there are.
func TestCrash(t *testing.T) {
	for changes := range 4 {
		for _, n := range append(limits(), changes, changes+1, changes+2, 2*changes+2, 2*changes+1) {
			x := made(t, 99)
			for i := range changes {
				x.do(t, create(fmt.Sprint(i)))
			}
			x.do(t, crash(n))
			if want := max(n, 0) % (changes + 1); len(x.d.Names()) != want {
				t.Errorf("%d of %d changes: %q", n, changes, x.d.Names())
			}
		}
	}
	for bytes := range 4 {
		for _, n := range append(limits(), bytes, bytes+1, bytes+2, 2*bytes+2, 2*bytes+1) {
			x := made(t, 99, create("a"), add("a", "safe"), sync("a"), syncNames(), add("a", "xyz"[:bytes]), crash(0, n))
			x.want(t, "a:safe"+"xyz"[:max(n, 0)%(bytes+1)])
		}
	}
}

// P22.3: the files take parts by ascending name, also those that have no more bytes;
// those for which there are no parts have none.
func TestParts(t *testing.T) {
	all := []call{create("c"), create("b"), create("a"), create("."), add("c", "cc"), add("b", "bb"), sync("b"), add("a", "aaa"), create("d"), add("d", "d"), remove("d"), syncNames()}
	for _, c := range []struct {
		parts []int
		want  string
	}{
		{nil, ".: a: b:bb c:"},
		{[]int{5}, ".: a: b:bb c:"},
		{[]int{0, 1}, ".: a:a b:bb c:"},
		{[]int{0, 3, 1}, ".: a:aaa b:bb c:"},
		{[]int{0, 4, 1, 1}, ".: a: b:bb c:c"},
		{[]int{9, 2, 9, 2, 1, 1}, ".: a:aa b:bb c:cc"},
		{[]int{-1, -1, -1, 5}, ".: a: b:bb c:cc"},
	} {
		x := made(t, 99, all...)
		x.do(t, crash(0, c.parts...))
		x.want(t, strings.Fields(c.want)...)
		// All is safe now.
		x.do(t, crash(3, 3, 3, 3, 3))
		x.want(t, strings.Fields(c.want)...)
	}
}

// P22.2: a Sync counts for the file under whatever name it has in what is safe.
func TestSyncOtherName(t *testing.T) {
	for names := range 4 {
		x := made(t, 99, create("a"), syncNames(), rename("a", "b"), create("a"), add("a", "new"), rename("a", "c"), add("b", "xy"), sync("b"), add("b", "z"), crash(names))
		x.want(t, [][]string{{"a:xy"}, {"b:xy"}, {"a:", "b:xy"}, {"b:xy", "c:"}}[names]...)
	}
	x := made(t, 99, create("a"), add("a", "old"), sync("a"), create("b"), syncNames(), add("b", "new"), sync("b"), rename("b", "a"), crash(0))
	x.want(t, "a:old", "b:new")
	x.do(t, rename("b", "a"), syncNames(), crash(0))
	x.want(t, "a:new")
}

// P22.3: a crash brings back files for which there is no room: then there is none for
// nothing, either.
func TestBelow(t *testing.T) {
	x := made(t, 5, create("a"), add("a", "abcde"), sync("a"), create("b"), syncNames(), remove("a"), add("b", "xyz"), sync("b"), crash(0))
	x.want(t, "a:abcde", "b:xyz")
	if x.d.Left() != -3 {
		t.Error(x.d.Left())
	}
	for _, s := range []string{"", "x", "xyzxyzxyz"} {
		if x.do(t, add("a", s)) != api.ErrFull || x.do(t, add("b", s)) != api.ErrFull {
			t.Errorf("room for %q", s)
		}
	}
	if x.do(t, add("c", "")) != api.ErrNone || x.do(t, create("c")) != api.OK || x.do(t, add("c", "")) != api.ErrFull {
		t.Error("other errors")
	}
	if x.do(t, rename("b", "a"), add("a", "pq")) != api.OK || x.do(t, add("a", "r")) != api.ErrFull {
		t.Error("other room")
	}
	x.want(t, "a:xyzpq", "c:")
}

// Rule 7: disks that New did not return.
func TestInvalid(t *testing.T) {
	x := made(t, 9, create("a"), add("a", "x"))
	copied := *x.d
	for _, d := range []*files.Disk{nil, {}, new(files.Disk), &copied} {
		for _, c := range append(operations(), append(named("A"), fuse(-1), fuse(0), fuse(1), crash(0), crash(-1, 1), crash(1, 1))...) {
			if b, e := c.on(d); b != "" || e != api.ErrNil {
				t.Errorf("%+v: error %d", c, e)
			}
		}
		if len(d.Names()) != 0 || d.Size("a") != -1 || d.Size("A") != -1 || d.Left() != 0 || d.On() {
			t.Error("an invalid disk has something")
		}
	}
	x.check(t)
	x.want(t, "a:x")
}

// P22.3: many files, each with an Append, and many changes of names.
func TestMany(t *testing.T) {
	const many = 50000
	d, _ := files.New(api.MaxDisk)
	name := func(i int) string { return fmt.Sprintf("%08d", i) }
	for i := range many {
		if d.Make(name(i)) != api.OK || d.Append(name(i), []byte("xy")) != api.OK || i%2 == 0 && d.Sync(name(i)) != api.OK {
			t.Fatal("no file")
		}
		if d.Left() != api.MaxDisk-2*(i+1) {
			t.Fatal(d.Left())
		}
	}
	d.Crash(many-1, slices.Repeat([]int{1}, 11))
	if l := d.Names(); len(l) != many-1 || !slices.IsSorted(l) || l[many-2] != name(many-2) || d.Left() != api.MaxDisk-many-5 {
		t.Error(len(l), d.Left())
	}
	for i := range many - 1 {
		if d.Rename(name(i), "a") != api.OK || d.Rename("a", name(i+1)) != api.OK {
			t.Fatal("no file")
		}
	}
	if l := d.Names(); len(l) != 1 || d.Left() != api.MaxDisk-2 || d.SyncNames() != api.OK || d.Crash(0, nil) != api.OK || d.Size(name(many-1)) != 2 {
		t.Error(l, d.Left())
	}
}
