package plan_test

import (
	"fmt"
	"slices"
	"strings"
	"testing"

	"waterwheel/api"
	"waterwheel/plan"
)

// A part is a list that something has, with its spare capacity.
type part struct {
	dump  func() string
	spoil func()
}

// partOf returns the part that is a list.
func partOf[E any](l []E, by E) part {
	l = l[:cap(l)]
	spoil := func() {
		for i := range l {
			l[i] = by
		}
	}
	return part{dump: func() string { return fmt.Sprintf("%v", l) }, spoil: spoil}
}

// partsOfExpr returns all lists of an expression. Each is before those that its
// elements have.
func partsOfExpr(x api.Expr) []part {
	parts := []part{
		partOf(x.Match, api.Matcher{Kind: 9, Name: "spoilt"}), partOf(x.Names, "spoilt"), partOf(x.Kids, api.Expr{Kind: 9}),
	}
	for _, kid := range x.Kids {
		parts = append(parts, partsOfExpr(kid)...)
	}
	return parts
}

// partsOfNodes returns all lists of nodes.
func partsOfNodes(p []api.Node) []part {
	parts := []part{partOf(p, api.Node{Every: -9})}
	for _, n := range p {
		parts = append(parts, partOf(n.In, -9))
		parts = append(parts, partsOfExpr(n.Expr)...)
	}
	return parts
}

// partsOfQueries returns all lists of queries.
func partsOfQueries(l []api.Query) []part {
	parts := []part{partOf(l, api.Query{Every: -9})}
	for _, q := range l {
		parts = append(parts, partsOfExpr(q.Expr)...)
	}
	return parts
}

// dumpParts returns all that parts have.
func dumpParts(parts []part) string {
	var b strings.Builder
	for _, x := range parts {
		b.WriteString(x.dump())
	}
	return b.String()
}

// spoilParts spoils parts.
func spoilParts(parts []part) {
	for _, x := range parts {
		x.spoil()
	}
}

// apart checks that no two parts share memory, and spoils them.
func apart(t *testing.T, parts []part) {
	t.Helper()
	for i, x := range parts {
		before := dumpParts(parts[i+1:])
		x.spoil()
		if dumpParts(parts[i+1:]) != before {
			t.Fatalf("part %d shares memory", i)
		}
	}
}

// roomy returns a copy of l with spare capacity, in which there is something.
func roomy[E any](l []E, spare E) []E {
	return slices.Concat(l, []E{spare, spare})[: len(l) : len(l)+2]
}

// roomyExpr returns an expression with spare capacity everywhere.
func roomyExpr(x api.Expr) api.Expr {
	x.Match, x.Names, x.Kids = roomy(x.Match, api.Matcher{Kind: 7}), roomy(x.Names, "spare"), roomy(x.Kids, window("spare", 1))
	for i := range x.Kids {
		x.Kids[i] = roomyExpr(x.Kids[i])
	}
	return x
}

// roomyNodes returns nodes with spare capacity everywhere.
func roomyNodes(p []api.Node) []api.Node {
	p = roomy(p, node(window("spare", 1), 1))
	for i := range p {
		p[i].Expr, p[i].In = roomyExpr(p[i].Expr), roomy(p[i].In, 1)
	}
	return p
}

// roomyQueries returns queries with spare capacity everywhere.
func roomyQueries(l []api.Query) []api.Query {
	l = roomy(l, api.Query{Every: 5, Expr: window("spare", 1)})
	for i := range l {
		l[i].Expr = roomyExpr(l[i].Expr)
	}
	return l
}

// Rule 3: what Of returns is new memory, and stays as it was; what it is given is
// neither changed nor kept.
func TestMemoryOfOf(t *testing.T) {
	m := &maker{seed: 2}
	for range 200 {
		l := m.queries(4, 5)
		want, wantRoots := refOf(l)
		given := roomyQueries(l)
		parts := partsOfQueries(given)
		before := dumpParts(parts)
		p, roots, _ := plan.Of(given)
		other, otherRoots, _ := plan.Of(given)
		if dumpParts(parts) != before {
			t.Fatal("the queries changed")
		}
		spoilParts(parts)
		if !sameNodes(p, want) || !slices.Equal(roots, wantRoots) {
			t.Fatal("the plan shares memory with the queries")
		}
		apart(t, append(partsOfNodes(p), partOf(roots, -9)))
		if !sameNodes(other, want) || !slices.Equal(otherRoots, wantRoots) {
			t.Fatal("two plans share memory")
		}
	}
}

// numberLists are the calls that return lists of numbers.
func numberLists() []func(p []api.Node, n int) []int {
	return []func(p []api.Node, n int) []int{
		plan.Out,
		func(p []api.Node, _ int) []int { return plan.Leaves(p) },
		func(p []api.Node, n int) []int { return plan.Used(p, []int{n, 1}) },
	}
}

// Rule 3: what is returned for a plan is new memory, and stays as it was; the
// plan is neither changed nor kept.
func TestMemoryOfPlans(t *testing.T) {
	m := &maker{seed: 4}
	for range 100 {
		own := m.plan(1 + m.next(14))
		for n := 1; n <= len(own); n++ {
			memoryOfNode(t, own, n)
		}
	}
}

// memoryOfNode checks what is returned for a node of a plan.
func memoryOfNode(t *testing.T, own []api.Node, n int) {
	t.Helper()
	r := reference(own)
	given := roomyNodes(own)
	roots := roomy([]int{n, 1, n}, 2)
	parts := append(partsOfNodes(given), partOf(roots, -9))
	before := dumpParts(parts)
	var lists, again [][]int
	for _, call := range numberLists() {
		lists, again = append(lists, call(given, n)), append(again, call(given, n))
	}
	q, _ := plan.Query(given, n)
	same, _ := plan.Query(given, n)
	left, to, _ := plan.Only(given, roots)
	plan.Used(given, roots)
	if plan.Check(given) != api.OK || plan.Horizon(given, n) != r.horizon(n) || !plan.Same(given, own) || dumpParts(parts) != before {
		t.Fatal("the plan or the roots changed")
	}
	spoilParts(parts)
	want, wantErr := r.query(n)
	if wantErr == api.OK && !sameQuery(q, want) {
		t.Fatal("the query shares memory with the plan")
	}
	wantLeft, wantTo, _ := r.only([]int{n, 1, n})
	if !sameNodes(left, wantLeft) || !slices.Equal(to, wantTo) {
		t.Fatal("the rest of the plan shares memory with the plan")
	}
	results := append(partsOfNodes(left), partOf(to, -9))
	results = append(results, partsOfQueries([]api.Query{q})...)
	for _, l := range lists {
		results = append(results, partOf(l, -9))
	}
	apart(t, results)
	if wantErr == api.OK && !sameQuery(same, want) {
		t.Fatal("two queries share memory")
	}
	for i, call := range numberLists() {
		if !slices.Equal(again[i], call(own, n)) {
			t.Fatal("two lists of numbers share memory")
		}
	}
}

// Rule 3: an expression that is there several times is new memory each time.
func TestMemoryOfRepeated(t *testing.T) {
	x := window("a", 1, api.Matcher{Kind: api.MatchIs, Name: "a", Text: "x"})
	p := []api.Node{node(x), node(group([]string{"a", "b"}), 1), node(joined(1, []string{"a"}), 2, 2), node(joined(1, nil), 3, 3)}
	q, e := plan.Query(p, 4)
	if e != api.OK || sizeOf(q.Expr) != 11 {
		t.Fatalf("%v, error %d", q, e)
	}
	apart(t, partsOfExpr(q.Expr))
}

// T6: the results of a call depend on its arguments alone.
func TestAgain(t *testing.T) {
	m := &maker{seed: 8}
	for range 50 {
		l := m.queries(5, 5)
		p, roots, _ := plan.Of(l)
		for range 5 {
			again, own, e := plan.Of(l)
			if e != api.OK || !plan.Same(again, p) || !slices.Equal(own, roots) {
				t.Fatalf("%v, %v, error %d, not %v, %v", again, own, e, p, roots)
			}
		}
		checkAll(t, p)
		checkAll(t, p)
	}
}
