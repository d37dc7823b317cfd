package files_test

import (
	"slices"
	"testing"

	"waterwheel/api"
	"waterwheel/files"
)

// roomy returns a copy of l with spare capacity, in which there is something.
func roomy[E any](l []E, spare E) []E {
	return slices.Concat(l, []E{spare, spare})[: len(l) : len(l)+2]
}

// spoil spoils a list with its spare capacity.
func spoil[E any](l []E, by E) {
	l = l[:cap(l)]
	for i := range l {
		l[i] = by
	}
}

// addMemory appends bytes, which then are spoilt.
func (x *pair) addMemory(t *testing.T, name, bytes string) {
	t.Helper()
	given := roomy([]byte(bytes), 9)
	_, want := x.r.do(add(name, bytes))
	if e := x.d.Append(name, given); e != want || string(given[:cap(given)]) != bytes+"\x09\x09" {
		t.Fatalf("the bytes changed, or error %d, not %d", e, want)
	}
	spoil(given, '#')
	x.check(t)
}

// crashMemory crashes with parts that are spoilt then.
func (x *pair) crashMemory(t *testing.T, n int, parts []int) {
	t.Helper()
	given := roomy(parts, 2)
	x.r.do(crash(n, parts...))
	if e := x.d.Crash(n, given); e != api.OK || !slices.Equal(given[:cap(given)], slices.Concat(parts, []int{2, 2})) {
		t.Fatalf("the parts changed, or error %d", e)
	}
	spoil(given, 1)
	x.check(t)
	x.reads(t)
}

// checkMemory checks that what is returned is new memory, and stays as it was.
func (x *pair) checkMemory(t *testing.T) {
	t.Helper()
	all := func() (names [][]string, bytes [][]byte) {
		names = append(names, x.d.Names(), x.d.Names())
		for _, name := range x.d.Names() {
			for range 2 {
				b, _ := x.d.Read(name)
				bytes = append(bytes, b)
			}
		}
		return names, bytes
	}
	names, bytes := all()
	for i := range names {
		spoil(names[i], "spoilt")
		if i == 0 && slices.Contains(names[1][:cap(names[1])], "spoilt") {
			t.Fatal("two lists of names share memory")
		}
	}
	for i := range bytes {
		spoil(bytes[i], '#')
		for _, b := range bytes[i+1:] {
			if slices.Contains(b[:cap(b)], '#') {
				t.Fatal("two results share memory")
			}
		}
	}
	x.reads(t)
	names, bytes = all()
	x.addMemory(t, "a", "new")
	for _, l := range names {
		if !slices.IsSorted(l) || slices.Contains(l, "spoilt") {
			t.Fatal("a result changed, or what was returned is kept")
		}
	}
	for _, b := range bytes {
		if slices.Contains(b[:cap(b)], '#') || slices.Contains(b[len(b):cap(b)], 'n') {
			t.Fatal("a result changed, or what was returned is kept")
		}
	}
}

// Rule 3: what a disk returns is new memory, and stays as it was; what it is given is
// neither changed nor kept.
func TestMemory(t *testing.T) {
	d := dice(3)
	for range 100 {
		x := made(t, 60)
		for range 40 {
			switch c := d.call(); c.kind {
			case doAppend:
				x.addMemory(t, c.name, c.more)
			case doCrash:
				x.crashMemory(t, c.n, c.parts)
			case doFuse:
			default:
				x.do(t, c)
			}
			x.checkMemory(t)
		}
	}
}

// Rule 3: bytes that were lost in a crash are not in the spare capacity of a result.
func TestLost(t *testing.T) {
	d, _ := files.New(100)
	d.Make("a")
	d.SyncNames()
	for n := range 90 {
		d.Append("a", []byte("####"))
		d.Crash(0, nil)
		d.Append("a", []byte("x"))
		d.Sync("a")
		b, _ := d.Read("a")
		if len(b) != n+1 || slices.Contains(b[:cap(b)], '#') {
			t.Fatalf("%q", b[:cap(b)])
		}
	}
}

// T6: the same calls have the same results, whatever is done to other disks.
func TestApart(t *testing.T) {
	d := dice(8)
	for range 50 {
		x, y, z := made(t, 30), made(t, 30), made(t, 30)
		for range 60 {
			c := d.call()
			x.do(t, c)
			z.do(t, d.call())
			y.do(t, c)
			x.check(t)
			z.check(t)
		}
	}
}
