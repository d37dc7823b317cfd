package mark_test

import (
	"fmt"
	"slices"
	"strings"
	"testing"

	"waterwheel/api"
	"waterwheel/mark"
)

// A part is a list that something has, with its spare capacity.
type part struct {
	dump  func() string
	spoil func()
}

// partOf returns the part that is a list.
func partOf[E any](l []E, by E) part {
	l = l[:cap(l)]
	spoil := func() {
		for i := range l {
			l[i] = by
		}
	}
	return part{dump: func() string { return fmt.Sprintf("%v", l) }, spoil: spoil}
}

// partsOf returns the list of the labels of each sample.
func partsOf(l []api.Sample) (parts []part) {
	for _, s := range l {
		parts = append(parts, partOf(s.Labels, api.Label{Name: "spoilt", Text: "spoilt"}))
	}
	return parts
}

// dumpParts returns all that parts have.
func dumpParts(parts []part) string {
	var b strings.Builder
	for _, x := range parts {
		b.WriteString(x.dump())
	}
	return b.String()
}

// apart checks that no two parts share memory, and spoils them.
func apart(t *testing.T, parts []part) {
	t.Helper()
	for i, x := range parts {
		before := dumpParts(parts[i+1:])
		x.spoil()
		if dumpParts(parts[i+1:]) != before {
			t.Fatalf("part %d shares memory", i)
		}
	}
}

// roomy returns a copy of l with spare capacity, in which there is something.
func roomy[E any](l []E, spare E) []E {
	return slices.Concat(l, []E{spare, spare})[: len(l) : len(l)+2]
}

// putMemory puts a sample whose labels have spare capacity, and are then spoilt.
func (x *pair) putMemory(t *testing.T, s api.Sample) {
	t.Helper()
	given := s
	given.Labels = roomy(s.Labels, api.Label{Name: "spare", Text: "x"})
	parts := partsOf([]api.Sample{given})
	before := dumpParts(parts)
	may, e, want := x.i.May(given), x.i.Put(given), x.r.put(s)
	if may != want || e != want || dumpParts(parts) != before {
		t.Fatalf("the labels changed, or errors %d and %d, not %d", may, e, want)
	}
	parts[0].spoil()
	x.check(t)
}

// checkMemory checks that what is returned is new memory, and stays as it was, and
// that bytes are not kept.
func (x *pair) checkMemory(t *testing.T) {
	t.Helper()
	most := len(x.r.all())
	all := func() (parts []part) {
		next, _ := x.i.Next(most / 2)
		for _, l := range [][]api.Sample{x.i.Samples(), next, x.i.Between(x.r.floor, x.r.greatest)} {
			// The list comes before those that its samples have.
			parts = append(parts, partOf(l, api.Sample{Time: -9}))
			parts = append(parts, partsOf(l[:cap(l)])...)
		}
		return append(parts, partOf(x.i.Bytes(), 255))
	}
	parts, again := all(), all()
	before := dumpParts(again)
	given := roomy(x.i.Bytes(), 9)
	i, e := mark.Read(given)
	if e != api.OK || string(given[:cap(given)]) != x.r.bytes()+"\x09\x09" {
		t.Fatalf("the bytes changed, or error %d", e)
	}
	apart(t, parts)
	partOf(given, 255).spoil()
	if dumpParts(again) != before {
		t.Fatal("two results share memory")
	}
	x.check(t)
	(&pair{i, x.r}).check(t)
}

// Rule 3: what an intake returns is new memory, and stays as it was; what it is
// given is neither changed nor kept.
func TestMemory(t *testing.T) {
	d := dice(6)
	for range 40 {
		x := made(t, d.to(0, 12))
		for range 20 {
			x.putMemory(t, d.sample(x.r.mark()+6, 8))
			x.checkMemory(t)
			if d.of(6) == 0 {
				x.pass(t, d.to(x.r.passed, x.r.mark()))
				x.trim(t, d.to(0, x.r.passed))
			}
		}
	}
}
