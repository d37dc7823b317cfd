package plan_test

import (
	"slices"
	"testing"

	"waterwheel/api"
	"waterwheel/plan"
)

// P17.3: Query of a root is the query.
func checkRootsOf(t *testing.T, l []api.Query, p []api.Node, roots []int) {
	t.Helper()
	for i, q := range l {
		if got, e := plan.Query(p, roots[i]); e != api.OK || !sameQuery(got, q) {
			t.Fatalf("Query of root %d is %.1000v, error %d, not %.1000v", roots[i], got, e, q)
		}
	}
}

// checkOnly checks P17.3 for what is left of a plan.
func checkOnly(t *testing.T, p []api.Node, roots []int) {
	t.Helper()
	q, to, e := plan.Only(p, roots)
	if e != api.OK || len(to) != len(p) {
		t.Fatalf("%d nodes of %d, error %d", len(to), len(p), e)
	}
	if e := plan.Check(q); e != api.OK {
		t.Fatalf("Check of %.1000v is %d", q, e)
	}
	for i, n := range to {
		if n == 0 {
			continue
		}
		want, wantErr := plan.Query(p, i+1)
		got, e := plan.Query(q, n)
		if e != wantErr || !sameQuery(got, want) || plan.Horizon(p, i+1) != plan.Horizon(q, n) {
			t.Fatalf("Query of %d was %.1000v, error %d, and is %.1000v, error %d", i+1, want, wantErr, got, e)
		}
	}
	var own []int
	for _, root := range roots {
		own = append(own, to[root-1])
	}
	if again, to, e := plan.Only(q, own); e != api.OK || !plan.Same(again, q) || slices.Contains(to, 0) {
		t.Fatalf("Only twice is %.1000v, %v, error %d, not %.1000v", again, to, e, q)
	}
}

// P17.3, P17.1: queries that look like chance, against the reference.
func TestChanceQueries(t *testing.T) {
	m := &maker{seed: 1}
	repeated := 0
	for range 3000 {
		l := m.queries(1+m.next(6), 6)
		p := checkOf(t, l)
		_, roots, _ := plan.Of(l)
		checkRootsOf(t, l, p, roots)
		size := 0
		for _, q := range l {
			size += sizeOf(q.Expr)
		}
		if size > len(p) {
			repeated++
		}
		again, both, e := plan.Of(slices.Concat(l, l))
		if e != api.OK || !plan.Same(again, p) || !slices.Equal(both, slices.Concat(roots, roots)) {
			t.Fatalf("twice it is %.1000v, %v, error %d, not %.1000v, %v", again, both, e, p, roots)
		}
		checkOnly(t, p, roots)
		checkOnly(t, p, roots[m.next(len(roots)):])
		// All nodes are used by the roots.
		if q, _, _ := plan.Only(p, roots); !plan.Same(q, p) {
			t.Fatalf("Only the roots is %.1000v, not %.1000v", q, p)
		}
	}
	if repeated < 1000 {
		t.Errorf("only %d plans with nodes that are used again", repeated)
	}
}

// P17.3: the plan of what a plan's nodes ask has the same nodes.
func TestPlanOfNodes(t *testing.T) {
	m := &maker{seed: 5}
	for range 1000 {
		p := m.plan(12)
		var l []api.Query
		for i := range p {
			q, e := plan.Query(p, i+1)
			if e != api.OK {
				break
			}
			l = append(l, q)
		}
		q, own, e := plan.Of(l)
		if e != api.OK || !plan.Same(q, p[:len(l)]) || !slices.Equal(own, roots(len(l))) {
			t.Fatalf("%.1000v, %v, error %d, not %.1000v", q, own, e, p)
		}
	}
}

// P17.2, P17.3: plans that look like chance, and need not be those of queries,
// against the reference.
func TestChancePlans(t *testing.T) {
	m := &maker{seed: 9}
	long := 0
	for range 150 {
		p := m.plan(1 + m.next(50))
		checkAll(t, p)
		for range 4 {
			checkOnly(t, p, []int{1 + m.next(len(p)), 1 + m.next(len(p)), 1 + m.next(len(p))})
		}
		if _, e := plan.Query(p, len(p)); e == api.ErrLong {
			long++
		}
	}
	for range 1000 {
		checkAll(t, m.spoilt(m.plan(1+m.next(6))))
	}
	if long < 12 {
		t.Errorf("only %d plans with queries that are too great", long)
	}
}

// P17.3: queries whose plan has the most nodes there may be.
func TestFullPlan(t *testing.T) {
	var l []api.Query
	for i := range 333 {
		x := window(named(i), int64(i+1))
		l = append(l, api.Query{Every: 5, Expr: joined(api.OpAdd, nil, x, scale(2, x))})
	}
	l = append(l, api.Query{Every: 6, Expr: window("a", 1)})
	p := checkOf(t, l)
	if len(p) != 1000 {
		t.Fatalf("%d nodes", len(p))
	}
	_, roots, _ := plan.Of(l)
	checkRootsOf(t, l[300:], p, roots[300:])
	checkOf(t, slices.Concat(l, l))
	checkOf(t, append(l, api.Query{Every: 7, Expr: window("a", 1)}))
	q, to, e := plan.Only(p, roots[300:])
	if e != api.OK || len(q) != 100 || to[899] != 0 || to[900] != 1 || plan.Check(q) != api.OK {
		t.Fatalf("%d nodes, %v, error %d", len(q), to, e)
	}
}
