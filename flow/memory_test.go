package flow_test

import (
	"fmt"
	"slices"
	"strings"
	"testing"

	"waterwheel/api"
	"waterwheel/flow"
)

// A part is a list that something has, with its spare capacity.
type part struct {
	dump  func() string
	spoil func()
}

// partOf returns the part that is a list.
func partOf[E any](l []E, by E) part {
	l = l[:cap(l)]
	spoil := func() {
		for i := range l {
			l[i] = by
		}
	}
	return part{dump: func() string { return fmt.Sprintf("%v", l) }, spoil: spoil}
}

// partOfLabels returns the part that is a list of labels.
func partOfLabels(l []api.Label) part {
	return partOf(l, api.Label{Name: "spoilt", Text: "spoilt"})
}

// partsOfBatches returns all lists of batches. Each is before those that its elements
// have.
func partsOfBatches(l []api.Batch) []part {
	parts := []part{partOf(l, at(-9))}
	for _, b := range l {
		parts = append(parts, partOf(b.Changes, put(-9)))
		for _, c := range b.Changes {
			parts = append(parts, partOfLabels(c.Labels))
		}
	}
	return parts
}

// partsOfResults returns all lists of results.
func partsOfResults(v []api.Result) []part {
	parts := []part{partOf(v, api.Result{Value: api.Value{N: -9}})}
	for _, x := range v {
		parts = append(parts, partOfLabels(x.Labels))
	}
	return parts
}

// partsOfItems returns all lists of samples and passes.
func partsOfItems(l []api.Item) []part {
	parts := []part{partOf(l, pass(-9))}
	for _, i := range l {
		parts = append(parts, partOfLabels(i.Sample.Labels))
	}
	return parts
}

// partsOfPlan returns all lists of a plan.
func partsOfPlan(p []api.Node) []part {
	parts := []part{partOf(p, api.Node{Every: -9})}
	for _, n := range p {
		parts = append(parts, partOf(n.In, -9), partOf(n.Expr.Match, api.Matcher{Kind: 9}), partOf(n.Expr.Names, "spoilt"), partOf(n.Expr.Kids, api.Expr{Kind: 9}))
	}
	return parts
}

// dumpParts returns all that parts have.
func dumpParts(parts []part) string {
	var b strings.Builder
	for _, x := range parts {
		b.WriteString(x.dump())
	}
	return b.String()
}

// spoilParts spoils parts.
func spoilParts(parts []part) {
	for _, x := range parts {
		x.spoil()
	}
}

// apart checks that no two parts share memory, and spoils them.
func apart(t *testing.T, parts []part) {
	t.Helper()
	for i, x := range parts {
		before := dumpParts(parts[i+1:])
		x.spoil()
		if dumpParts(parts[i+1:]) != before {
			t.Fatalf("part %d shares memory", i)
		}
	}
}

// roomy returns a copy of l with spare capacity, in which there is something.
func roomy[E any](l []E, spare E) []E {
	return slices.Concat(l, []E{spare, spare})[: len(l) : len(l)+2]
}

// roomyPlan returns a copy of a plan with spare capacity everywhere.
func roomyPlan(p []api.Node) []api.Node {
	p = roomy(p, api.Node{Every: 5})
	for i := range p {
		x := &p[i].Expr
		p[i].In, x.Match, x.Names = roomy(p[i].In, 1), roomy(x.Match, api.Matcher{Kind: 1, Name: "spare"}), roomy(x.Names, "spare")
		x.Kids = roomy(x.Kids, api.Expr{Kind: 1})
	}
	return p
}

// newMemory returns a new flow, of what is spoilt after it was made.
func newMemory(t *testing.T, p []api.Node, taps []int, room int) *pair {
	t.Helper()
	givenPlan, givenTaps := roomyPlan(p), roomy(taps, 1)
	parts := append(partsOfPlan(givenPlan), partOf(givenTaps, -9))
	before := dumpParts(parts)
	f, e := flow.New(givenPlan, givenTaps, 0, room)
	if e != api.OK || dumpParts(parts) != before {
		t.Fatalf("the plan changed, or error %d", e)
	}
	spoilParts(parts)
	x := &pair{f, newReference(t, p, taps, 0, room)}
	x.check(t)
	return x
}

// feedMemory feeds items, which then are spoilt.
func (x *pair) feedMemory(t *testing.T, l ...api.Item) {
	t.Helper()
	given := roomy(l, pass(1))
	for i := range given {
		given[i].Sample.Labels = roomy(given[i].Sample.Labels, api.Label{Name: "spare", Text: "x"})
		if given[i].Kind == api.ItemPass {
			given[i].Sample.Labels = nil
		}
	}
	parts := partsOfItems(given)
	before := dumpParts(parts)
	if e, want := x.f.Feed(given...), x.r.feed(l...); e != want || dumpParts(parts) != before {
		t.Fatalf("the items changed, or error %d, not %d", e, want)
	}
	spoilParts(parts)
	x.check(t)
}

// results returns all lists that calls return.
func (x *pair) results() (parts []part) {
	for i := range x.r.nodes {
		parts = append(parts, partsOfBatches(x.f.Outlet(i+1))...)
		parts = append(parts, partsOfResults(x.f.Vector(i+1))...)
		parts = append(parts, partOf(x.f.Queues(i+1), -9), partOf(x.f.Oper(i+1), 255))
	}
	return parts
}

// Rule 3: what is returned is new memory, and stays as it was; what is given is
// neither changed nor kept.
func TestMemory(t *testing.T) {
	d := dice(7)
	for range 40 {
		p := d.plan(6)
		x := newMemory(t, p, all(p), 1+d.of(5))
		for n := range int64(12) {
			x.feedMemory(t, d.item(3*n), d.item(3*n))
			picks := roomy([]int{d.of(9), -d.of(9), d.of(9)}, 1)
			picked := partOf(picks, 0)
			before := picked.dump()
			x.run(t, picks...)
			if picked.dump() != before {
				t.Fatal("the picks changed")
			}
			x.drain(t)
			again := x.results()
			before = dumpParts(again)
			apart(t, x.results())
			x.check(t)
			for _, tap := range d.taps(p) {
				b, _ := x.take(t, tap)
				apart(t, partsOfBatches([]api.Batch{b}))
			}
			x.check(t)
			if dumpParts(again) != before {
				t.Fatal("two results share memory")
			}
			x.drain(t)
		}
	}
}
