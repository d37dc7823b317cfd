package plan_test

import (
	"math"
	"slices"
	"testing"

	"waterwheel/api"
	"waterwheel/plan"
)

// P17.2: the query of each node, whether it is a root or not.
func TestQuery(t *testing.T) {
	texts := []string{"every 5: sum(a[1]) * 2 + on (x) sum(b[2]) > 3", "every 6: least by (x, y) (sum(a[1])) - sum(a[1])"}
	p, roots, e := plan.Of(queries(t, texts...))
	if e != api.OK || len(p) != 8 || !slices.Equal(roots, []int{5, 8}) {
		t.Fatalf("%v, %v, error %d", p, roots, e)
	}
	for i, q := range queries(t, "every 5: sum(a[1])", "every 5: sum(a[1]) * 2", "every 5: sum(b[2])", "every 5: sum(a[1]) * 2 + on (x) sum(b[2])",
		texts[0], "every 6: sum(a[1])", "every 6: least by (x, y) (sum(a[1]))", texts[1]) {
		if got, e := plan.Query(p, i+1); e != api.OK || !sameQuery(got, q) {
			t.Errorf("Query of %d is %v, error %d, not %v", i+1, got, e, q)
		}
	}
	checkAll(t, p)
}

// P17.2: numbers that are not those of nodes.
func TestNoNode(t *testing.T) {
	for _, p := range [][]api.Node{nil, windows(1), chain(8), windows(64), windows(1000)} {
		for _, n := range []int{math.MinInt, math.MinInt32, -1000, -64, -1, 0, len(p) + 1, len(p) + 2, len(p) + 64, 1001, 1 << 32, 1<<32 + 1, math.MaxInt} {
			if q, e := plan.Query(p, n); e != api.ErrArg || !none(q) {
				t.Errorf("Query of %d of %d is %v, error %d", n, len(p), q, e)
			}
			if out, used, horizon := plan.Out(p, n), plan.Used(p, []int{n}), plan.Horizon(p, n); len(out) != 0 || len(used) != 0 || horizon != 0 {
				t.Errorf("%d of %d: %v, %v, %d", n, len(p), out, used, horizon)
			}
			for _, roots := range [][]int{{n}, {1, n}, {n, 1}} {
				if q, to, e := plan.Only(p, roots); q != nil || to != nil || e != api.ErrArg {
					t.Errorf("Only %v of %d is %v, %v, error %d", roots, len(p), q, to, e)
				}
			}
			if len(p) > 0 && !slices.Equal(plan.Used(p, []int{n, 1, n}), []int{1}) {
				t.Errorf("Used of %d and 1 is %v", n, plan.Used(p, []int{n, 1, n}))
			}
		}
	}
}

// P17.2: a query that is nested at most 16 deep.
func TestDeep(t *testing.T) {
	p := chain(40)
	for n := range 42 {
		checkNode(t, p, n)
		if _, e := plan.Query(p, n); (e == api.OK) != (n >= 1 && n <= 16) {
			t.Errorf("Query of %d: error %d", n, e)
		}
	}
	long := chain(1000)
	for _, n := range []int{16, 17, 999, 1000} {
		checkNode(t, long, n)
	}
	// The deepest way may be on either side, and come last.
	for _, in := range [][]int{{15, 41}, {41, 15}, {16, 41}, {41, 16}, {1, 15}, {15, 15}, {1, 16}} {
		p := append(chain(40), node(window("b", 1)), node(joined(1, nil), in...), node(scale(9), 42))
		checkNode(t, p, 42)
		checkNode(t, p, 43)
	}
}

// P17.2: a query that has at most 200 expressions, and plans whose expressions
// would be too great for any memory.
func TestGreat(t *testing.T) {
	for _, n := range []int{7, 8, 16, 17, 64, 1000} {
		p := twice(n)
		for _, at := range []int{1, 6, 7, 8, 16, 17, n / 2, n - 1, n} {
			checkNode(t, p, at)
		}
		checkRoots(t, p, n)
	}
	if q, e := plan.Query(twice(7), 7); e != api.OK || len(q.Expr.Kids) != 2 {
		t.Errorf("%v, error %d", q, e)
	}
	if q, e := plan.Query(twice(1000), 1000); e != api.ErrLong || !none(q) {
		t.Errorf("%v, error %d", q, e)
	}
	if got := plan.Horizon(twice(1000), 1000); got != 7 {
		t.Errorf("Horizon is %d", got)
	}
}

// P17.2: expressions of each size around the limit, with what is too great on
// either side.
func TestSizes(t *testing.T) {
	// Of 1, 3, 7, .. 127 expressions, 1 to 7; the others are joined.
	base := twice(7)
	sizes := map[int]int{}
	for i := range 7 {
		for k := range 7 {
			for more := range 7 {
				p := append(slices.Clone(base), node(joined(api.OpSub, nil), i+1, k+1), node(joined(api.OpMul, nil), 8, more+1), node(scale(1), 9), node(scale(2), 10), node(joined(api.OpMul, []string{"a"}), more+1, 8))
				for n := 8; n <= len(p); n++ {
					checkNode(t, p, n)
					if q, e := plan.Query(p, n); e == api.OK {
						sizes[sizeOf(q.Expr)]++
					} else if e == api.ErrLong {
						sizes[201]++
					}
				}
			}
		}
	}
	// 127 + 63 + 7 + 2 is 199, and a scale of it is 200.
	if sizes[199] == 0 || sizes[200] == 0 || sizes[201] == 0 {
		t.Errorf("%v", sizes)
	}
}

// sizeOf returns the number of expressions in x.
func sizeOf(x api.Expr) int {
	n := 1
	for _, kid := range x.Kids {
		n += sizeOf(kid)
	}
	return n
}

// P17.2: size and depth at their limits at the same time.
func TestSizeAndDepth(t *testing.T) {
	for _, size := range []int{198, 199, 200, 201, 202} {
		for _, deep := range []int{15, 16, 17} {
			p, n := sized(size, deep)
			sizes, deeps := reference(p).measures()
			if sizes[n-1].Int64() != int64(size) || deeps[n-1] != deep {
				t.Fatalf("size %v and depth %d, not %d and %d", sizes[n-1], deeps[n-1], size, deep)
			}
			checkNode(t, p, n)
			want := api.OK
			if size > 200 || deep > 16 {
				want = api.ErrLong
			}
			if _, e := plan.Query(p, n); e != want {
				t.Errorf("Query of size %d and depth %d: error %d", size, deep, e)
			}
		}
	}
}

// sized returns a plan, and the number of a node whose expression has a size and
// a depth.
func sized(size, deep int) ([]api.Node, int) {
	p := append(twice(7), node(window("b", 9)))
	n, at, size := 8, 1, size-1
	for at < deep {
		// Each join adds one, and a side that has 1, 3, 7, .. 63; each level that
		// is left adds at least one.
		side := 0
		for s := 6; s >= 1; s-- {
			if 1<<s+(deep-at-1) <= size && s <= at {
				side = s
				break
			}
		}
		if side > 0 {
			p = append(p, node(joined(api.OpAdd, []string{named(at)}), n, side))
			size -= 1 << side
		} else {
			p = append(p, node(scale(int64(at)), n))
			size--
		}
		n, at = len(p), at+1
	}
	return p, n
}

// P17.2: Out has each node as often as it is fed.
func TestOut(t *testing.T) {
	p := []api.Node{
		node(window("a", 1)), node(window("b", 1)), node(joined(1, nil), 1, 1), node(joined(2, nil), 2, 1), node(joined(1, nil), 1, 2),
		node(scale(1), 1), node(joined(1, nil), 6, 6), node(group(nil), 1), {Every: 6, Expr: window("a", 1)}, {Every: 6, Expr: scale(1), In: []int{9}},
	}
	want := map[int][]int{1: {3, 3, 4, 5, 6, 8}, 2: {4, 5}, 6: {7, 7}, 9: {10}}
	for n := -1; n <= len(p)+1; n++ {
		if got := plan.Out(p, n); !slices.Equal(got, want[n]) {
			t.Errorf("Out of %d is %v", n, got)
		}
	}
	if got := plan.Leaves(p); !slices.Equal(got, []int{1, 2, 9}) {
		t.Errorf("Leaves is %v", got)
	}
	checkAll(t, p)
	full := append(windows(1), slices.Repeat([]api.Node{node(joined(1, nil), 1, 1)}, 999)...)
	for i := range full[1:] {
		full[i+1].Expr.Names = []string{named(i)}
	}
	if got := plan.Out(full, 1); len(got) != 1998 || got[0] != 2 || got[1997] != 1000 {
		t.Errorf("Out of a full plan has %d nodes", len(got))
	}
}

// P17.2: Horizon is that of the leaves that feed a node, and of no others.
func TestHorizon(t *testing.T) {
	p := []api.Node{
		node(window("a", 3)), node(window("b", 1<<30)), node(window("c", 5)), node(scale(1), 1), node(joined(1, nil), 4, 3),
		node(joined(1, nil), 5, 2), node(filter(1<<40), 3), node(group(nil), 5), node(joined(1, nil), 6, 7),
	}
	for i, want := range []int64{3, 1 << 30, 5, 3, 5, 1 << 30, 5, 5, 1 << 30} {
		if got := plan.Horizon(p, i+1); got != want {
			t.Errorf("Horizon of %d is %d, not %d", i+1, got, want)
		}
	}
	checkAll(t, p)
}

// P17.2: which nodes are used by one, by several, by all and by none, around the
// words of a bit set.
func TestUsed(t *testing.T) {
	for _, n := range []int{1, 2, 62, 63, 64, 65, 127, 128, 129, 130} {
		for _, p := range [][]api.Node{windows(n), chain(n), twice(n)} {
			for _, root := range []int{1, 2, 62, 63, 64, 65, 127, 128, 129, n - 1, n} {
				checkRoots(t, p, root)
				checkRoots(t, p, root, root)
				checkRoots(t, p, n, root)
				checkRoots(t, p, root, 1, n+1-root)
			}
			checkRoots(t, p)
			all := plan.Used(p, roots(n))
			checkRoots(t, p, roots(n)...)
			if len(all) != n {
				t.Errorf("%d of %d are used", len(all), n)
			}
		}
	}
	for _, p := range [][]api.Node{windows(1000), chain(1000), twice(1000)} {
		checkRoots(t, p, 1000)
		checkRoots(t, p, 500, 7)
		checkRoots(t, p, roots(1000)...)
		checkRoots(t, p, slices.Repeat([]int{1}, 100000)...)
	}
}

// roots returns all numbers from 1 to n.
func roots(n int) []int {
	var l []int
	for i := range n {
		l = append(l, i+1)
	}
	return l
}

// P17.2: Only renumbers what feeds a node.
func TestOnly(t *testing.T) {
	p := []api.Node{
		node(window("a", 1)), node(window("b", 1)), {Every: 6, Expr: window("a", 1)}, node(joined(1, nil), 2, 1), node(joined(2, nil), 2, 2),
		{Every: 6, Expr: scale(1), In: []int{3}}, node(scale(2), 5), node(joined(3, nil), 7, 2),
	}
	q, to, e := plan.Only(p, []int{6, 8})
	want := []api.Node{
		node(window("b", 1)), {Every: 6, Expr: window("a", 1)}, node(joined(2, nil), 1, 1),
		{Every: 6, Expr: scale(1), In: []int{2}}, node(scale(2), 3), node(joined(3, nil), 5, 1),
	}
	if e != api.OK || !sameNodes(q, want) || !slices.Equal(to, []int{0, 1, 2, 0, 3, 4, 5, 6}) {
		t.Errorf("%v, %v, error %d", q, to, e)
	}
	for _, l := range [][]int{nil, {}} {
		if q, to, e := plan.Only(p, l); len(q) != 0 || !slices.Equal(to, make([]int, 8)) || e != api.OK {
			t.Errorf("%v, %v, error %d", q, to, e)
		}
	}
	checkAll(t, p)
}
