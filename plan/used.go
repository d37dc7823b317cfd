package plan

import (
	"waterwheel/api"
	"waterwheel/ast"
)

// Out returns the nodes that n feeds, ascending, each as often as n feeds it.
func Out(p []api.Node, n int) []int {
	if Check(p) != api.OK {
		return nil
	}
	var l []int
	for i, x := range p {
		for _, in := range x.In {
			if in == n {
				l = append(l, i+1)
			}
		}
	}
	return l
}

// Leaves returns all windows, ascending.
func Leaves(p []api.Node) []int {
	if Check(p) != api.OK {
		return nil
	}
	var l []int
	for i, x := range p {
		if x.Expr.Kind == api.ExWindow {
			l = append(l, i+1)
		}
	}
	return l
}

// Used returns all nodes that are roots, or feed one, directly or through other
// nodes, ascending.
func Used(p []api.Node, roots []int) []int {
	if Check(p) != api.OK {
		return nil
	}
	used := usedBy(p, roots...)
	var l []int
	for i := range p {
		if used.has(i + 1) {
			l = append(l, i+1)
		}
	}
	return l
}

// Only returns the plan of the nodes that are used, and for each node of p its
// number in it, or 0 if it is not used.
func Only(p []api.Node, roots []int) (q []api.Node, to []int, e api.Errno) {
	if e := Check(p); e != api.OK {
		return nil, nil, e
	}
	for _, root := range roots {
		if !isNode(p, root) {
			return nil, nil, api.ErrArg
		}
	}
	used := usedBy(p, roots...)
	to = make([]int, len(p))
	for i, n := range p {
		if used.has(i + 1) {
			q = append(q, renumbered(n, to))
			to[i] = len(q)
		}
	}
	return q, to, api.OK
}

// renumbered returns a copy of a node, fed by the nodes that have new numbers.
func renumbered(n api.Node, to []int) api.Node {
	own := api.Node{Every: n.Every, Expr: ast.Copy(n.Expr)}
	for _, in := range n.In {
		own.In = append(own.In, to[in-1])
	}
	return own
}

// Horizon returns the greatest span of the windows that n is, or that feed it,
// directly or through other nodes.
func Horizon(p []api.Node, n int) int64 {
	if Check(p) != api.OK {
		return 0
	}
	used, most := usedBy(p, n), int64(0)
	for i, x := range p {
		if used.has(i + 1) {
			// Only windows have a span.
			most = max(most, x.Expr.Span)
		}
	}
	return most
}

// usedBy returns the nodes of a plan that are roots, or feed one, directly or
// through other nodes. Roots that are no nodes do not count.
func usedBy(p []api.Node, roots ...int) bits {
	used := make(bits, len(p)/wordBits+1)
	for _, root := range roots {
		if isNode(p, root) {
			used.set(root)
		}
	}
	// A node is fed by lesser ones only, so that all that it feeds were visited
	// before it.
	for n := len(p); n >= 1; n-- {
		if !used.has(n) {
			continue
		}
		for _, in := range p[n-1].In {
			used.set(in)
		}
	}
	return used
}
