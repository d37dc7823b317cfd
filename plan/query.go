package plan

import (
	"waterwheel/api"
	"waterwheel/ast"
)

// Query returns the query whose root is a node.
func Query(p []api.Node, root int) (api.Query, api.Errno) {
	if e := Check(p); e != api.OK {
		return api.Query{}, e
	}
	if !isNode(p, root) {
		return api.Query{}, api.ErrArg
	}
	g := grower{nodes: p}
	q := api.Query{Every: p[root-1].Every, Expr: g.grow(root)}
	if e := ast.Check(q); e != api.OK {
		return api.Query{}, e
	}
	return q, api.OK
}

// A grower makes the expression of a root. A node is in it once for each way from
// the node to the root, and there may be very many ways. So the expression grows
// no more once it is too great for a query, whatever else would be in it.
type grower struct {
	nodes []api.Node
	size  int
}

// grow returns the expression of a node.
func (g *grower) grow(n int) api.Expr {
	g.size++
	x := ast.Copy(g.nodes[n-1].Expr)
	for _, in := range g.nodes[n-1].In {
		if g.size > api.MaxSize {
			break
		}
		x.Kids = append(x.Kids, g.grow(in))
	}
	return x
}
