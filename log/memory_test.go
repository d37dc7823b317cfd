package log_test

import (
	"slices"
	"testing"

	"waterwheel/api"
	"waterwheel/files"
	"waterwheel/log"
)

// roomy returns a copy of l with spare capacity, in which there is something.
func roomy[E any](l []E, spare E) []E {
	return slices.Concat(l, []E{spare, spare})[: len(l) : len(l)+2]
}

// roomyAll returns records as an argument, each with spare capacity.
func roomyAll(l []string) (b [][]byte) {
	for _, s := range l {
		b = append(b, roomy([]byte(s), 9))
	}
	return roomy(b, []byte("spare"))
}

// isRoomyAll says whether an argument is as roomyAll made it.
func isRoomyAll(b [][]byte, l []string) bool {
	all := b[:cap(b)]
	if len(b) != len(l) || string(all[len(b)]) != "spare" || string(all[len(b)+1]) != "spare" {
		return false
	}
	for i, p := range b {
		if string(p[:cap(p)]) != l[i]+"\x09\x09" {
			return false
		}
	}
	return true
}

// spoil spoils records with all spare capacity.
func spoil(b [][]byte) {
	b = b[:cap(b)]
	for i, p := range b {
		p = p[:cap(p)]
		for j := range p {
			p[j] = '#'
		}
		b[i] = []byte("spoilt")
	}
}

// Rule 3: what is given is neither changed nor kept.
func TestArguments(t *testing.T) {
	dice := dice(3)
	for range 100 {
		x := made(t, 5000, "x", open())
		for range 30 {
			c := call{kind: pick(&dice, doAppend, doNext), records: dice.records()}
			given := roomyAll(c.records)
			var e api.Errno
			if c.kind == doAppend {
				e = x.l.Append(given...)
			} else {
				e = x.l.Next(given...)
			}
			if want := x.r.change(c); e != want || !isRoomyAll(given, c.records) {
				t.Fatalf("%+v: an argument changed, or error %d, not %d", c, e, want)
			}
			spoil(given)
			x.check(t)
			x.sees(t)
		}
	}
	b := roomy([]byte(framed("a", "", "bc")), 7)
	before := string(b[:cap(b)])
	for n := range len(b) {
		log.Scan(b[n:])
		log.Scan(b[:n])
	}
	if string(b[:cap(b)]) != before {
		t.Error("the bytes changed")
	}
}

// wantApart checks that lists of records share no memory, and stay as they were, when
// one after another is spoilt.
func wantApart(t *testing.T, want []string, lists ...[][]byte) {
	t.Helper()
	for i, b := range lists {
		for j, p := range b {
			if string(p) != want[j] {
				t.Fatalf("%q, not %q", p, want[j])
			}
			p = p[:cap(p)]
			for k := range p {
				p[k] = '#'
			}
			for _, later := range b[j+1:] {
				if slices.Contains(later[:cap(later)], '#') {
					t.Fatal("two records share memory")
				}
			}
		}
		spoil(b)
		for _, later := range lists[i+1:] {
			if len(later) != len(want) {
				t.Fatal("two results share memory")
			}
		}
	}
}

// Rule 3: what is returned is new memory.
func TestResults(t *testing.T) {
	l := []string{"a", "", "bcd", "", framed("e"), "f"}
	b := []byte(framed(l...))
	scan := func(b []byte) [][]byte {
		s, _, _ := log.Scan(b)
		return s
	}
	wantApart(t, l, scan(b), scan(b), scan(append(b, "tor"...)), scan(append(b, 255, 255, 255, 255)))
	if string(b) != framed(l...) {
		t.Error("a record shares memory with the argument")
	}
	kept := scan(b)
	for i := range b {
		b[i] = '#'
	}
	wantApart(t, l, kept)

	for _, more := range []string{"", "tor"} {
		d, _ := files.New(1000)
		d.Make("x-1")
		d.Append("x-1", []byte(framed(l...)+more))
		open := func() [][]byte {
			_, s, e := log.Open(d, "x")
			if e != api.OK {
				t.Fatal(e)
			}
			return s
		}
		first, again := open(), open()
		wantApart(t, l, first, again, open())
		wantApart(t, l, open())
	}
}

// T6: the same calls have the same results, whatever is done to another log on the same
// disk.
func TestApart(t *testing.T) {
	dice := dice(8)
	for range 100 {
		x := made(t, 100000, "x", open())
		other, _, _ := log.Open(x.d, "other")
		for range 40 {
			x.one(t, pick(&dice, dice.changes(1)[0], open()))
			if e := dice.changes(1)[0].onLog(other); e != api.OK {
				t.Fatal(e)
			}
			r := x.r
			if x.l.Generation() != r.generation || x.l.Count() != r.records || x.l.Size() != r.d.Size(r.file(r.generation)) || x.l.Err() != api.OK {
				t.Fatal("another log changed this one")
			}
		}
	}
}
