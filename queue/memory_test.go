package queue_test

import (
	"fmt"
	"slices"
	"strings"
	"testing"

	"waterwheel/api"
	"waterwheel/queue"
)

// A part is a list that something has, with its spare capacity.
type part struct {
	dump  func() string
	spoil func()
}

// partOf returns the part that is a list.
func partOf[E any](l []E, by E) part {
	l = l[:cap(l)]
	spoil := func() {
		for i := range l {
			l[i] = by
		}
	}
	return part{dump: func() string { return fmt.Sprintf("%v", l) }, spoil: spoil}
}

// partsOf returns all lists of items, but not the list of the items. Each is before
// those that its elements have.
func partsOf(l ...api.Item) (parts []part) {
	spoilt := api.Label{Name: "spoilt", Text: "spoilt"}
	for _, i := range l {
		parts = append(parts, partOf(i.Sample.Labels, spoilt), partOf(i.Batch.Changes, put(-9)))
		for _, c := range i.Batch.Changes {
			parts = append(parts, partOf(c.Labels, spoilt))
		}
	}
	return parts
}

// dumpParts returns all that parts have.
func dumpParts(parts []part) string {
	var b strings.Builder
	for _, x := range parts {
		b.WriteString(x.dump())
	}
	return b.String()
}

// apart checks that no two parts share memory, and spoils them.
func apart(t *testing.T, parts []part) {
	t.Helper()
	for i, x := range parts {
		before := dumpParts(parts[i+1:])
		x.spoil()
		if dumpParts(parts[i+1:]) != before {
			t.Fatalf("part %d shares memory", i)
		}
	}
}

// roomy returns a copy of l with spare capacity, in which there is something.
func roomy[E any](l []E, spare E) []E {
	return slices.Concat(l, []E{spare, spare})[: len(l) : len(l)+2]
}

// roomyItems returns items with spare capacity everywhere.
func roomyItems(l []api.Item) []api.Item {
	spare := api.Label{Name: "spare", Text: "x"}
	l = roomy(l, of(5, 5, "spare", "x"))
	for n := range l {
		l[n].Sample.Labels = roomy(l[n].Sample.Labels, spare)
		l[n].Batch.Changes = roomy(l[n].Batch.Changes, put(1, "spare", "x"))
		for at, c := range l[n].Batch.Changes {
			l[n].Batch.Changes[at].Labels = roomy(c.Labels, spare)
		}
	}
	return l
}

// putMemory puts items, which then are spoilt.
func (x *pair) putMemory(t *testing.T, l []api.Item) {
	t.Helper()
	given := roomyItems(l)
	parts := append([]part{partOf(given, pass(-9))}, partsOf(given...)...)
	before := dumpParts(parts)
	if e, want := x.q.Put(given...), x.r.put(l...); e != want || dumpParts(parts) != before {
		t.Fatalf("the items changed, or error %d, not %d", e, want)
	}
	for _, p := range parts {
		p.spoil()
	}
	x.check(t)
}

// checkMemory checks that what is returned is new memory, and stays as it was, and
// that bytes are not kept.
func (x *pair) checkMemory(t *testing.T) {
	t.Helper()
	all := func() []part {
		l := x.q.Items()
		first, _ := x.q.First()
		parts := append([]part{partOf(l, pass(-9))}, partsOf(append(l, first)...)...)
		return append(parts, partOf(x.q.Bytes(), 255))
	}
	parts, again := all(), all()
	before := dumpParts(again)
	given := roomy(x.q.Bytes(), 9)
	q, e := queue.Read(given)
	if e != api.OK || string(given[:cap(given)]) != x.r.bytes()+"\x09\x09" {
		t.Fatalf("the bytes changed, or error %d", e)
	}
	apart(t, parts)
	partOf(given, 255).spoil()
	if dumpParts(again) != before {
		t.Fatal("two results share memory")
	}
	x.check(t)
	(&pair{q, x.r}).check(t)
}

// Rule 3: what a queue returns is new memory, and stays as it was; what it is given
// is neither changed nor kept.
func TestMemory(t *testing.T) {
	d := dice(6)
	for range 200 {
		x := made(t, 1+d.of(6))
		for range 20 {
			x.putMemory(t, d.items(3))
			x.checkMemory(t)
			if d.of(2) == 0 {
				l := x.q.Items()
				i, _ := x.take(t)
				parts := partsOf(l...)
				before := dumpParts(parts)
				apart(t, partsOf(i))
				if dumpParts(parts) != before {
					t.Fatal("what is taken shares memory")
				}
				x.check(t)
			}
		}
	}
}

// Rule 3: Check and Same change nothing of items, and do not look at their spare
// capacity.
func TestItemMemory(t *testing.T) {
	for _, i := range append(all(), api.Item{}) {
		l := roomyItems([]api.Item{i, i})
		parts := append([]part{partOf(l, pass(-9))}, partsOf(l...)...)
		before := dumpParts(parts)
		if e := queue.Check(l[0]); (e == api.OK) != isItem(i) || !queue.Same(l[0], l[1]) || dumpParts(parts) != before {
			t.Errorf("%s changed, or error %d", short(dump(i)), e)
		}
	}
}
