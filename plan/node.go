package plan

import (
	"waterwheel/api"
	"waterwheel/ast"
	"waterwheel/show"
)

// A key is different for nodes that are different.
type key struct {
	every int64
	text  string
}

// keyOf returns the key of a node, or an error if its Every, or its Expr with as
// many kids as it has In, is not valid. The node itself has no kids.
func keyOf(n api.Node) (key, api.Errno) {
	x := n.Expr
	x.Kids = nil
	for _, in := range n.In {
		x.Kids = append(x.Kids, standIn(in))
	}
	if e := ast.Check(api.Query{Every: n.Every, Expr: x}); e != api.OK {
		return key{}, e
	}
	text, e := show.Expr(x)
	return key{every: n.Every, text: text}, e
}

// standIn returns an ExWindow that stands for a node. Its span is the number of
// the node, so that the text tells by which nodes another one is fed.
func standIn(n int) api.Expr {
	return api.Expr{Kind: api.ExWindow, Func: api.FnLast, Metric: "node", Span: int64(n)}
}

// isNode reports whether p has a node with this number.
func isNode(p []api.Node, n int) bool {
	return 1 <= n && n <= len(p)
}

// isFed reports whether n has no kids and is fed by as many nodes as it must be,
// each of which is one of those before it and has its Every.
func isFed(before []api.Node, n api.Node) bool {
	if len(n.Expr.Kids) > 0 || len(n.In) != ast.Kids(n.Expr.Kind) {
		return false
	}
	for _, in := range n.In {
		if !isNode(before, in) || before[in-1].Every != n.Every {
			return false
		}
	}
	return true
}
