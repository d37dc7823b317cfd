package oper_test

import (
	"fmt"
	"slices"
	"strings"
	"testing"

	"waterwheel/api"
	"waterwheel/oper"
	"waterwheel/sample"
)

// A part is a list that something has, with its spare capacity.
type part struct {
	dump  func() string
	spoil func()
}

// partOf returns the part that is a list.
func partOf[E any](l []E, by E) part {
	l = l[:cap(l)]
	spoil := func() {
		for i := range l {
			l[i] = by
		}
	}
	return part{dump: func() string { return fmt.Sprintf("%v", l) }, spoil: spoil}
}

// partsOfLabels returns a list with those of its elements. Each is before those
// that its elements have.
func partsOfLabels[E any](l []E, by E, labels func(E) []api.Label) []part {
	parts := []part{partOf(l, by)}
	for _, x := range l {
		parts = append(parts, partOf(labels(x), api.Label{Name: "spoilt", Text: "spoilt"}))
	}
	return parts
}

// partsOfBatches returns all lists of batches.
func partsOfBatches(l []api.Batch) []part {
	parts := []part{partOf(l, at(-9))}
	for _, b := range l {
		parts = append(parts, partsOfLabels(b.Changes, put(-9), func(c api.Change) []api.Label { return c.Labels })...)
	}
	return parts
}

// partsOfResults and partsOfSamples return all lists of these.
func partsOfResults(v []api.Result) []part {
	return partsOfLabels(v, result(-9), func(x api.Result) []api.Label { return x.Labels })
}

func partsOfSamples(l []api.Sample) []part {
	return partsOfLabels(l, of(-9, -9), func(s api.Sample) []api.Label { return s.Labels })
}

// partsOfNode returns all lists of a node.
func partsOfNode(n api.Node) []part {
	return []part{partOf(n.In, -9), partOf(n.Expr.Match, api.Matcher{Kind: 9}), partOf(n.Expr.Names, "spoilt"), partOf(n.Expr.Kids, api.Expr{Kind: 9})}
}

// dumpParts returns all that parts have.
func dumpParts(parts []part) string {
	var b strings.Builder
	for _, x := range parts {
		b.WriteString(x.dump())
	}
	return b.String()
}

// spoilParts spoils parts.
func spoilParts(parts []part) {
	for _, x := range parts {
		x.spoil()
	}
}

// apart checks that no two parts share memory, and spoils them.
func apart(t *testing.T, parts []part) {
	t.Helper()
	for i, x := range parts {
		before := dumpParts(parts[i+1:])
		x.spoil()
		if dumpParts(parts[i+1:]) != before {
			t.Fatalf("part %d shares memory", i)
		}
	}
}

// roomy returns a copy of l with spare capacity, in which there is something.
func roomy[E any](l []E, spare E) []E {
	return slices.Concat(l, []E{spare, spare})[: len(l) : len(l)+2]
}

// roomyLabels returns labels with spare capacity.
func roomyLabels(l []api.Label) []api.Label {
	return roomy(l, api.Label{Name: "spare", Text: "x"})
}

// roomyNode returns a node with spare capacity everywhere.
func roomyNode(n api.Node) api.Node {
	n.In, n.Expr.Match, n.Expr.Names = roomy(n.In, 1), roomy(n.Expr.Match, is("spare", "x")), roomy(n.Expr.Names, "spare")
	n.Expr.Kids = roomy(n.Expr.Kids, api.Expr{Kind: 1})
	return n
}

// roomyBatch returns a batch with spare capacity everywhere.
func roomyBatch(b api.Batch) api.Batch {
	b.Changes = roomy(b.Changes, put(1, "spare", "x"))
	for i := range b.Changes {
		b.Changes[i].Labels = roomyLabels(b.Changes[i].Labels)
	}
	return b
}

// newMemory returns a pair of an operator whose node is spoilt after it was made.
func newMemory(t *testing.T, n api.Node, mark int64) *pair {
	t.Helper()
	given := roomyNode(n)
	parts := partsOfNode(given)
	before := dumpParts(parts)
	o, e := oper.New(given, mark)
	if wrong := oper.CheckNode(given); e != api.OK || wrong != api.OK || dumpParts(parts) != before {
		t.Fatalf("the node changed, or error %d", e)
	}
	spoilParts(parts)
	x := &pair{o, reference{node: n, told: mark, sides: make([]refSide, len(n.In))}}
	x.check(t)
	return x
}

// checkMemory checks that what is returned is new memory, and stays as it was, and
// that bytes are not kept.
func (x *pair) checkMemory(t *testing.T) {
	t.Helper()
	all := func() []part {
		parts := append(partsOfResults(x.o.Vector()), partsOfSamples(x.o.Kept())...)
		return append(append(parts, partsOfNode(x.o.Node())...), partOf(x.o.Bytes(), 255))
	}
	parts, again := all(), all()
	before := dumpParts(again)
	given := roomy(x.o.Bytes(), 9)
	o, e := oper.Read(given)
	if e != api.OK || string(given[:cap(given)]) != x.r.bytes()+"\x09\x09" {
		t.Fatalf("the bytes changed, or error %d", e)
	}
	apart(t, parts)
	partOf(given, 255).spoil()
	if dumpParts(again) != before {
		t.Fatal("two results share memory")
	}
	x.check(t)
	other := pair{o, copyReference(x.r)}
	other.check(t)
}

// Rule 3: what a leaf returns is new memory, and stays as it was; what it is given
// is neither changed nor kept.
func TestMemoryOfLeaves(t *testing.T) {
	d := dice(12)
	for range 120 {
		x := newMemory(t, d.leaf(), int64(d.of(20)))
		for range 5 {
			for range 8 {
				s := d.sample(x.r.told)
				given := s
				given.Labels = roomyLabels(s.Labels)
				parts := partsOfSamples([]api.Sample{given})
				before := dumpParts(parts)
				if e, want := x.o.Sample(given), x.r.sample(s); e != want || dumpParts(parts) != before {
					t.Fatalf("the sample changed, or error %d, not %d", e, want)
				}
				spoilParts(parts)
				x.check(t)
			}
			x.checkMemory(t)
			to := x.r.told + int64(d.of(12))
			l, e := x.o.Pass(to)
			if want, _ := x.r.pass(to); e != api.OK || !sameBatches(l, want) {
				t.Fatalf("%s, not %s, error %d", short(l), short(want), e)
			}
			v := x.o.Vector()
			apart(t, partsOfBatches(l))
			if !sample.Same(v, x.r.vector) {
				t.Fatal("the vector shares memory with batches")
			}
			x.checkMemory(t)
		}
	}
}

// Rule 3: what another operator returns is new memory, and stays as it was; what it
// is given is neither changed nor kept.
func TestMemoryOfOthers(t *testing.T) {
	d := dice(13)
	for range 120 {
		n := d.other()
		x := newMemory(t, n, 0)
		for range 12 {
			side := 1 + d.of(len(n.In))
			last := x.r.told
			if w := x.r.sides[side-1].waits; len(w) > 0 {
				last = w[len(w)-1].Time
			}
			b := at(last+n.Every, d.changes(6)...)
			given := roomyBatch(copyBatch(b))
			parts := partsOfBatches([]api.Batch{given})
			before := dumpParts(parts)
			l, e := x.o.Take(side, given)
			want, _ := x.r.take(side, b)
			if e != api.OK || !sameBatches(l, want) || dumpParts(parts) != before {
				t.Fatalf("the batch changed, or %s, not %s, error %d", short(l), short(want), e)
			}
			spoilParts(parts)
			if !sameBatches(l, want) {
				t.Fatal("batches share memory with what was given")
			}
			v := x.o.Vector()
			apart(t, partsOfBatches(l))
			if !sample.Same(v, x.r.vector) {
				t.Fatal("the vector shares memory with batches")
			}
			x.check(t)
			x.checkMemory(t)
		}
	}
}

// T6: two operators do not depend on each other, and the same calls have the same
// results.
func TestApart(t *testing.T) {
	d := dice(14)
	for range 50 {
		n := d.leaf()
		x, y := made(t, n, 0), made(t, n, 0)
		for range 30 {
			same := d
			x.sample(t, d.sample(x.r.told))
			y.sample(t, same.sample(y.r.told))
			to := x.r.told + int64(d.of(3))
			first, second := x.pass(t, to), y.pass(t, to)
			if !sameBatches(first, second) || string(x.o.Bytes()) != string(y.o.Bytes()) {
				t.Fatal("the same calls have other results")
			}
		}
	}
}
