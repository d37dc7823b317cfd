package ast

import (
	"waterwheel/api"
	"waterwheel/label"
)

// A between has the least and the greatest number that a field may have.
type between struct {
	least, most int64
}

// holds reports whether a field may have the number n.
func (b between) holds(n int64) bool {
	return b.least <= n && n <= b.most
}

// A shape tells what expressions of a kind have. The zero value of each field
// says that they do not have it.
type shape struct {
	funcs, ops, span between
	num              bool
	metric           bool // and matchers
	names            int  // at most
	kids             int
}

// shapes has the shape of each kind.
var shapes = [...]shape{
	api.ExWindow: {funcs: between{api.FnSum, api.FnIncrease}, span: between{1, api.MaxSpan}, metric: true},
	api.ExGroup:  {funcs: between{api.GrTotal, api.GrMost}, names: api.MaxLabels, kids: 1},
	api.ExJoin:   {ops: between{api.OpAdd, api.OpMul}, names: api.MaxLabels, kids: 2},
	api.ExScale:  {ops: between{api.OpAdd, api.OpMul}, num: true, kids: 1},
	api.ExFilter: {ops: between{api.OpLess, api.OpNe}, num: true, kids: 1},
}

// Check returns ErrArg if the Every of q is out of range, and the error of
// CheckExpr for its expression.
func Check(q api.Query) api.Errno {
	if q.Every < 1 || q.Every > api.MaxSpan {
		return api.ErrArg
	}
	return CheckExpr(q.Expr)
}

// CheckExpr returns ErrLong if e has too many expressions, or is nested too
// deep, and ErrArg if it is not valid.
func CheckExpr(e api.Expr) api.Errno {
	n := 0
	for _, deep := range all(e) {
		n++
		if n > api.MaxSize || deep > api.MaxNest {
			return api.ErrLong
		}
	}
	for x := range all(e) {
		if !fits(x) {
			return api.ErrArg
		}
	}
	return api.OK
}

// Kids returns how many kids a kind has, or -1 if there is no such kind.
func Kids(kind int) int {
	if kind < api.ExWindow || kind > api.ExFilter {
		return -1
	}
	return shapes[kind].kids
}

// fits reports whether e has what its kind has, and nothing else. It does not
// look into its kids.
func fits(e api.Expr) bool {
	// The kids are looked at first, because an unknown kind, which has no
	// shape, never has as many as Kids returns.
	if len(e.Kids) != Kids(e.Kind) {
		return false
	}
	s := shapes[e.Kind]
	return s.funcs.holds(int64(e.Func)) &&
		s.ops.holds(int64(e.Op)) &&
		s.span.holds(e.Span) &&
		(s.num || e.Num == 0) &&
		fitsSource(s, e) &&
		len(e.Names) <= s.names && ascend(e.Names)
}

// fitsSource reports whether e has a metric and matchers if it has the shape s
// of one that has them, and otherwise none.
func fitsSource(s shape, e api.Expr) bool {
	if !s.metric {
		return e.Metric == "" && len(e.Match) == 0
	}
	return label.Name(e.Metric) && label.CheckMatch(e.Match) == api.OK
}

// ascend reports whether l has names only, each less than the next one.
func ascend(l []string) bool {
	for i, name := range l {
		if !label.Name(name) || i > 0 && l[i-1] >= name {
			return false
		}
	}
	return true
}
