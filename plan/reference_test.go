package plan_test

import (
	"fmt"
	"math/big"
	"reflect"
	"slices"
	"testing"

	"waterwheel/api"
	"waterwheel/ast"
	"waterwheel/plan"
)

// kidsOf has how many kids each kind has.
var kidsOf = map[int]int{api.ExWindow: 0, api.ExGroup: 1, api.ExJoin: 2, api.ExScale: 1, api.ExFilter: 1}

// dump returns all that a node has, as a text.
func dump(n api.Node) string {
	x := n.Expr
	s := fmt.Sprintf("%d %d %d %d %d %q %d %q", n.Every, x.Kind, x.Func, x.Op, x.Num, x.Metric, x.Span, x.Names)
	for _, m := range x.Match {
		s += fmt.Sprintf(" %d %q %q", m.Kind, m.Name, m.Text)
	}
	for _, kid := range x.Kids {
		s += " (" + dump(api.Node{Expr: kid}) + ")"
	}
	return fmt.Sprintf("%s in %d", s, n.In)
}

// dumps returns all that nodes have.
func dumps(p []api.Node) []string {
	var l []string
	for _, n := range p {
		l = append(l, dump(n))
	}
	return l
}

// A reference is a plan that is asked in other ways than by the program.
type reference []api.Node

// refOf is Of for valid queries, with as many nodes as there are.
func refOf(l []api.Query) (r reference, roots []int) {
	numbers := map[string]int{}
	var add func(every int64, x api.Expr) int
	add = func(every int64, x api.Expr) int {
		n := api.Node{Every: every, Expr: x}
		n.Expr.Kids = nil
		for _, kid := range x.Kids {
			n.In = append(n.In, add(every, kid))
		}
		if numbers[dump(n)] == 0 {
			r = append(r, n)
			numbers[dump(n)] = len(r)
		}
		return numbers[dump(n)]
	}
	for _, q := range l {
		roots = append(roots, add(q.Every, q.Expr))
	}
	return r, roots
}

// check is Check.
func (r reference) check() api.Errno {
	if len(r) > 1000 {
		return api.ErrLong
	}
	there := map[string]int{}
	for i, n := range r {
		kids, is := kidsOf[n.Expr.Kind]
		if there[dump(n)]++; there[dump(n)] > 1 || !is || len(n.In) != kids || len(n.Expr.Kids) > 0 {
			return api.ErrArg
		}
		q := api.Query{Every: n.Every, Expr: n.Expr}
		q.Expr.Kids = slices.Repeat([]api.Expr{window("x", 1)}, kids)
		if ast.Check(q) != api.OK {
			return api.ErrArg
		}
		for _, in := range n.In {
			if in < 1 || in > i || r[in-1].Every != n.Every {
				return api.ErrArg
			}
		}
	}
	return api.OK
}

// is reports whether there is a node with a number.
func (r reference) is(n int) bool {
	return n >= 1 && n <= len(r)
}

// measures returns the size and the depth of the expression of each node.
func (r reference) measures() (sizes []*big.Int, deeps []int) {
	for _, n := range r {
		size, deep := big.NewInt(1), 0
		for _, in := range n.In {
			size.Add(size, sizes[in-1])
			deep = max(deep, deeps[in-1])
		}
		sizes, deeps = append(sizes, size), append(deeps, deep+1)
	}
	return sizes, deeps
}

// expr returns the whole expression of a node.
func (r reference) expr(n int) api.Expr {
	x := r[n-1].Expr
	x.Kids = nil
	for _, in := range r[n-1].In {
		x.Kids = append(x.Kids, r.expr(in))
	}
	return x
}

// query is Query.
func (r reference) query(n int) (api.Query, api.Errno) {
	if e := r.check(); e != api.OK {
		return api.Query{}, e
	}
	if !r.is(n) {
		return api.Query{}, api.ErrArg
	}
	sizes, deeps := r.measures()
	if sizes[n-1].Cmp(big.NewInt(200)) > 0 || deeps[n-1] > 16 {
		return api.Query{}, api.ErrLong
	}
	return api.Query{Every: r[n-1].Every, Expr: r.expr(n)}, api.OK
}

// out is Out.
func (r reference) out(n int) (l []int) {
	if r.check() != api.OK {
		return nil
	}
	for i := range r {
		for range len(slices.DeleteFunc(slices.Clone(r[i].In), func(in int) bool { return in != n })) {
			l = append(l, i+1)
		}
	}
	return l
}

// used is Used: nodes are added until there are no more.
func (r reference) used(roots ...int) (l []int) {
	if r.check() != api.OK {
		return nil
	}
	is := map[int]int{}
	for _, root := range roots {
		if r.is(root) {
			is[root] = 1
		}
	}
	for before := -1; before != len(is); {
		before = len(is)
		for i, n := range r {
			for _, in := range n.In {
				if is[i+1] > 0 {
					is[in] = 1
				}
			}
		}
	}
	for i := range r {
		if is[i+1] > 0 {
			l = append(l, i+1)
		}
	}
	return l
}

// leaves is Leaves.
func (r reference) leaves() (l []int) {
	if r.check() != api.OK {
		return nil
	}
	for i := range r {
		if len(r[i].In) == 0 {
			l = append(l, i+1)
		}
	}
	return l
}

// only is Only.
func (r reference) only(roots []int) (q reference, to []int, e api.Errno) {
	if e := r.check(); e != api.OK {
		return nil, nil, e
	}
	if slices.ContainsFunc(roots, func(n int) bool { return !r.is(n) }) {
		return nil, nil, api.ErrArg
	}
	used := r.used(roots...)
	for i := range r {
		to = append(to, slices.Index(used, i+1)+1)
	}
	for _, n := range used {
		x := r[n-1]
		x.In = slices.Clone(x.In)
		for i, in := range x.In {
			x.In[i] = slices.Index(used, in) + 1
		}
		q = append(q, x)
	}
	return q, to, api.OK
}

// horizon is Horizon.
func (r reference) horizon(n int) (most int64) {
	for _, n := range r.used(n) {
		most = max(most, r[n-1].Expr.Span)
	}
	return most
}

// same reports whether nodes are the same, with lists that are nil and empty
// ones as the same.
func sameNodes(a, b []api.Node) bool {
	return slices.Equal(dumps(a), dumps(b))
}

// sameQuery reports whether two queries are the same.
func sameQuery(a, b api.Query) bool {
	return a.Every == b.Every && ast.Same(a.Expr, b.Expr)
}

// none reports whether a query is the zero value.
func none(q api.Query) bool {
	return reflect.DeepEqual(q, api.Query{})
}

// checkOf checks Of of valid queries.
func checkOf(t *testing.T, l []api.Query) []api.Node {
	t.Helper()
	want, wantRoots := refOf(l)
	p, roots, e := plan.Of(l)
	if len(want) > 1000 {
		if p != nil || roots != nil || e != api.ErrLong {
			t.Fatalf("%d nodes, %d roots and error %d, not ErrLong", len(p), len(roots), e)
		}
		return nil
	}
	if e != api.OK || !sameNodes(p, want) || !slices.Equal(roots, wantRoots) {
		t.Fatalf("Of %.2000v is %.2000v, %v, error %d, not %.2000v, %v", l, p, roots, e, want, wantRoots)
	}
	if got := plan.Check(p); got != api.OK {
		t.Fatalf("Check of %.2000v is %d", p, got)
	}
	return p
}

// checkNode checks what is asked of one node, or of one that there is not.
func checkNode(t *testing.T, p []api.Node, n int) {
	t.Helper()
	r := reference(p)
	q, e := plan.Query(p, n)
	if want, wantErr := r.query(n); e != wantErr || !sameQuery(q, want) || e != api.OK && !none(q) {
		t.Fatalf("Query of %d of %.2000v is %.2000v, error %d, not %.2000v, error %d", n, p, q, e, want, wantErr)
	}
	if got, want := plan.Out(p, n), r.out(n); !slices.Equal(got, want) {
		t.Fatalf("Out of %d of %.2000v is %v, not %v", n, p, got, want)
	}
	if got, want := plan.Horizon(p, n), r.horizon(n); got != want {
		t.Fatalf("Horizon of %d of %.2000v is %d, not %d", n, p, got, want)
	}
	if got, want := plan.Used(p, []int{n}), r.used(n); !slices.Equal(got, want) {
		t.Fatalf("Used of %d of %.2000v is %v, not %v", n, p, got, want)
	}
}

// checkRoots checks what is asked of several roots.
func checkRoots(t *testing.T, p []api.Node, roots ...int) {
	t.Helper()
	r := reference(p)
	if got, want := plan.Used(p, roots), r.used(roots...); !slices.Equal(got, want) {
		t.Fatalf("Used of %v of %.2000v is %v, not %v", roots, p, got, want)
	}
	q, to, e := plan.Only(p, roots)
	want, wantTo, wantErr := r.only(roots)
	if e != wantErr || !sameNodes(q, want) || !slices.Equal(to, wantTo) || e != api.OK && (q != nil || to != nil) {
		t.Fatalf("Only %v of %.2000v is %.2000v, %v, error %d, not %.2000v, %v, error %d", roots, p, q, to, e, want, wantTo, wantErr)
	}
}

// checkAll checks all that is asked of a list of few nodes, whether it is a plan
// or not, with each number and few roots.
func checkAll(t *testing.T, p []api.Node) {
	t.Helper()
	r := reference(p)
	if got, want := plan.Check(p), r.check(); got != want {
		t.Fatalf("Check of %.2000v is %d, not %d", p, got, want)
	}
	if got, want := plan.Leaves(p), r.leaves(); !slices.Equal(got, want) {
		t.Fatalf("Leaves of %.2000v is %v, not %v", p, got, want)
	}
	for n := -1; n <= len(p)+1; n++ {
		checkNode(t, p, n)
		checkRoots(t, p, n)
		checkRoots(t, p, 1, n, (n+7)%(len(p)+1), n)
	}
	checkRoots(t, p)
}
