package oper

import (
	"slices"

	"waterwheel/api"
	"waterwheel/ast"
	"waterwheel/label"
)

// CheckNode returns ErrArg if n is not a node that an operator may belong to.
func CheckNode(n api.Node) api.Errno {
	if len(n.Expr.Kids) > 0 || len(n.In) != ast.Kids(n.Expr.Kind) || slices.ContainsFunc(n.In, noNode) {
		return api.ErrArg
	}
	x := n.Expr
	x.Kids = slices.Repeat([]api.Expr{standIn()}, len(n.In))
	if ast.Check(api.Query{Every: n.Every, Expr: x}) != api.OK {
		return api.ErrArg
	}
	return api.OK
}

// noNode reports whether no node has the number n.
func noNode(n int) bool {
	return n < 1 || n > api.MaxNodes
}

// standIn returns a valid window that stands for a node.
func standIn() api.Expr {
	return api.Expr{Kind: api.ExWindow, Func: api.FnLast, Metric: "node", Span: 1}
}

// copyOf returns n in new memory.
func copyOf(n api.Node) api.Node {
	return api.Node{Every: n.Every, Expr: ast.Copy(n.Expr), In: slices.Clone(n.In)}
}

// takes reports whether a leaf with the expression x takes a series.
func takes(x api.Expr, s api.Series) bool {
	return x.Metric == s.Metric && label.Takes(x.Match, s.Labels)
}
