package oper

import (
	"waterwheel/api"
	"waterwheel/batch"
)

// A work is what an operator does.
type work interface {
	// vector returns what the operator makes, for a time, of what it has.
	vector(time int64) []api.Result
	// write writes what the operator makes its vector of.
	write(w *writer)
}

// makers returns, for each kind, what makes the work of an operator.
func makers() map[int]func(o *Oper) work {
	return map[int]func(o *Oper) work{
		api.ExWindow: func(o *Oper) work { return window{o.lines, o.node.Expr} },
		api.ExGroup:  func(o *Oper) work { return grouped{o.sides, o.node.Expr} },
		api.ExJoin:   func(o *Oper) work { return joined{o.sides, o.node.Expr} },
		api.ExScale:  func(o *Oper) work { return scaled{o.sides, o.node.Expr} },
		api.ExFilter: func(o *Oper) work { return filtered{o.sides, o.node.Expr} },
	}
}

// A window is the work of a leaf.
type window struct {
	*lines
	expr api.Expr
}

// vector returns the values of the series that have points in the window. If
// there are too many, it is the first ones that count.
func (x window) vector(time int64) (v []api.Result) {
	for _, l := range x.list {
		if len(v) == api.MaxVector {
			break
		}
		if value, is := batch.Window(x.expr.Func, l.within(x.expr.Span, time)); is {
			v = append(v, api.Result{Labels: l.labels, Value: value})
		}
	}
	return v
}

// A grouped is the work of an ExGroup.
type grouped struct {
	*sides
	expr api.Expr
}

func (x grouped) vector(int64) []api.Result {
	v, _ := batch.Group(x.expr.Func, x.expr.Names, x.results[0])
	return v
}

// A joined is the work of an ExJoin.
type joined struct {
	*sides
	expr api.Expr
}

func (x joined) vector(int64) []api.Result {
	v, _ := batch.Join(x.expr.Op, x.expr.Names, x.results[0], x.results[1])
	return v
}

// A scaled is the work of an ExScale.
type scaled struct {
	*sides
	expr api.Expr
}

func (x scaled) vector(int64) []api.Result {
	v, _ := batch.Scale(x.expr.Op, x.expr.Num, x.results[0])
	return v
}

// A filtered is the work of an ExFilter.
type filtered struct {
	*sides
	expr api.Expr
}

func (x filtered) vector(int64) []api.Result {
	v, _ := batch.Filter(x.expr.Op, x.expr.Num, x.results[0])
	return v
}
