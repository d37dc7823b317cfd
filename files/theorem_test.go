package files_test

import (
	"fmt"
	"slices"
	"strings"
	"testing"

	"waterwheel/api"
	"waterwheel/files"
)

// few are calls that have every effect on few files.
func few() []call {
	return []call{
		create("a"), create("b"), add("a", "x"), add("b", "yz"), sync("a"), sync("b"), syncNames(), rename("a", "b"), rename("b", "a"), remove("a"), crash(1, 1),
	}
}

// lists calls each with all lists of n calls.
func lists(n int, each func([]call)) {
	all := few()
	l := make([]call, n)
	var fill func(int)
	fill = func(at int) {
		if at == n {
			each(l)
			return
		}
		for _, c := range all {
			l[at] = c
			fill(at + 1)
		}
	}
	fill(0)
}

// P22.2, P22.3: all lists of four calls, then each crash, and another one.
func TestLists(t *testing.T) {
	start := []call{create("a"), add("a", "s"), sync("a"), syncNames()}
	lists(4, func(l []call) {
		for _, before := range [][]call{nil, start} {
			calls := slices.Concat(before, l)
			changes := len(replay(t, calls).r.names)
			for names := range changes {
				for _, parts := range [][]int{nil, {1}, {2, 1}, {0, 1}} {
					x := replay(t, calls)
					x.do(t, crash(names, parts...))
					x.reads(t)
					x.do(t, crash(1, 1, 1))
					x.reads(t)
				}
			}
		}
	})
}

// replay returns a pair on which calls were made, without a check of each.
func replay(t *testing.T, l []call) *pair {
	x := made(t, 4)
	for _, c := range l {
		_, e := c.on(x.d)
		if _, want := x.r.do(c); e != want {
			t.Fatalf("%+v: error %d, not %d", l, e, want)
		}
	}
	return x
}

// P22.2, P22.3: calls that look like chance.
func TestChance(t *testing.T) {
	d := dice(1)
	for range 500 {
		x := made(t, pick(&d, 0, 3, 10, 30, 100))
		for range 200 {
			x.do(t, d.call())
			if x.d.On() && len(x.r.fuse) == 0 {
				x.reads(t)
			}
		}
	}
}

// A life is what the theorem says of a file: all its bytes, how many were synced, and
// its name, if this is safe and the file had no other one since.
type life struct {
	bytes  string
	synced int
	name   string
}

// lives are files by the name that they have now. Files begin with different bytes that
// were synced, so that each is found again.
type lives map[string]*life

// do does what a call that returned OK does.
func (l lives) do(c call) {
	x := l[c.name]
	switch c.kind {
	case doMake:
		l[c.name] = &life{}
	case doAppend:
		x.bytes += c.more
	case doSync:
		x.synced = len(x.bytes)
	case doSyncNames:
		for name, x := range l {
			x.name = name
		}
	case doRename:
		delete(l, c.name)
		l[c.more], x.name = x, ""
	case doRemove:
		delete(l, c.name)
	}
}

// had returns the file that began with these bytes.
func had(all []*life, b string) *life {
	for _, x := range all {
		if strings.HasPrefix(x.bytes, b) {
			return x
		}
	}
	return nil
}

// checkLives checks the files of a disk after a crash: those that have a safe name are
// there, and of all that are there the bytes are what the theorem says.
func checkLives(t *testing.T, d *files.Disk, all []*life, l lives) {
	t.Helper()
	for name, x := range l {
		b, e := d.Read(name)
		if x.name == name && (e != api.OK || len(b) < x.synced || !strings.HasPrefix(x.bytes, string(b))) {
			t.Fatalf("%s is %q, error %d, not %d bytes or more of %q", name, b, e, x.synced, x.bytes)
		}
	}
	seen := map[*life]bool{}
	for _, text := range dump(t, d) {
		_, b, _ := strings.Cut(text, ":")
		x := had(all, b)
		if x == nil || len(b) < x.synced || seen[x] {
			t.Fatalf("%q is not a first part, or there twice", text)
		}
		seen[x] = true
	}
}

// P22.4: what was synced is there after each crash; a first part of the rest is there;
// no file is there twice.
func TestTheorem(t *testing.T) {
	dice := dice(4)
	made := 0
	for range 3000 {
		d, _ := files.New(1 << 20)
		l, all := lives{}, []*life{}
		for range dice.of(30) {
			c := dice.call()
			if c.kind == doFuse || c.kind == doCrash {
				continue
			}
			if _, e := c.on(d); e != api.OK || c.kind == doRename && c.name == c.more {
				continue
			}
			l.do(c)
			if c.kind == doMake {
				made++
				for _, c := range []call{add(c.name, fmt.Sprintf("%08d", made)), sync(c.name)} {
					c.on(d)
					l.do(c)
				}
				all = append(all, l[c.name])
			}
		}
		d.Crash(dice.number(), dice.numbers())
		checkLives(t, d, all, l)
	}
}

// P22.4: a rename is done completely or not at all: whatever names and parts a crash
// keeps, the file has the old name or the new one, with all that was synced.
func TestRename(t *testing.T) {
	for names := range 3 {
		for part := range 3 {
			x := made(t, 99, create("a"), add("a", "old"), sync("a"), syncNames(), create("b"), add("b", "new"), sync("b"), add("b", "x"), rename("b", "a"), crash(names, part, part))
			more := "x"[:part%2]
			x.want(t, [][]string{{"a:old"}, {"a:old", "b:new" + more}, {"a:new" + more}}[names]...)
		}
	}
}

// P22.4: whenever a fuse goes off while a file takes the place of another one, there
// is the old one or the new one, and all of it.
func TestReplace(t *testing.T) {
	steps := []call{create("b"), add("b", "new"), sync("b"), rename("b", "a"), syncNames()}
	for n := range len(steps) + 1 {
		for names := range 3 {
			x := made(t, 99, create("a"), add("a", "old"), sync("a"), syncNames(), fuse(n))
			x.do(t, steps...)
			x.do(t, fuse(-1), crash(names, 1, 1))
			b, e := x.d.Read("a")
			if e != api.OK || string(b) != "old" && string(b) != "new" || n == len(steps) && string(b) != "new" {
				t.Fatalf("fuse %d: %q, error %d", n, b, e)
			}
			if n < 4 && string(b) != "old" {
				t.Fatalf("fuse %d: %q before the rename", n, b)
			}
		}
	}
}
