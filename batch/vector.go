package batch

import (
	"slices"

	"waterwheel/api"
	"waterwheel/ast"
	"waterwheel/label"
	"waterwheel/number"
	"waterwheel/sample"
)

// A set has the labels that some results share, and the values of these.
type set struct {
	labels []api.Label
	values []api.Value
}

// Group returns what a function makes of the results of v with the same labels.
func Group(fn int, names []string, v []api.Result) ([]api.Result, api.Errno) {
	if e := check(api.Expr{Kind: api.ExGroup, Func: fn, Names: names}, v); e != api.OK {
		return nil, e
	}
	return group(fn, names, v), api.OK
}

// Join returns what an operator makes of the results of a and b with the same
// labels.
func Join(op int, names []string, a, b []api.Result) ([]api.Result, api.Errno) {
	if e := check(api.Expr{Kind: api.ExJoin, Op: op, Names: names}, a, b); e != api.OK {
		return nil, e
	}
	return join(op, names, a, b), api.OK
}

// Scale returns what an operator makes of each result of v and a number.
func Scale(op int, n int64, v []api.Result) ([]api.Result, api.Errno) {
	if e := check(api.Expr{Kind: api.ExScale, Op: op, Num: n}, v); e != api.OK {
		return nil, e
	}
	return scale(op, n, v), api.OK
}

// Filter returns the results of v for which a comparison with a number is true.
func Filter(op int, n int64, v []api.Result) ([]api.Result, api.Errno) {
	if e := check(api.Expr{Kind: api.ExFilter, Op: op, Num: n}, v); e != api.OK {
		return nil, e
	}
	return filter(op, n, v), api.OK
}

// check returns ErrArg if e, which has no kids yet, would not be valid with
// them, and the first error of sample.CheckVector for its sides.
func check(e api.Expr, sides ...[]api.Result) api.Errno {
	kid := api.Expr{Kind: api.ExWindow, Func: api.FnSum, Metric: "a", Span: 1}
	e.Kids = slices.Repeat([]api.Expr{kid}, ast.Kids(e.Kind))
	if ast.CheckExpr(e) != api.OK {
		return api.ErrArg
	}
	for _, v := range sides {
		if wrong := sample.CheckVector(v); wrong != api.OK {
			return wrong
		}
	}
	return api.OK
}

// group is Group for valid arguments.
func group(fn int, names []string, v []api.Result) (l []api.Result) {
	for _, x := range gather(names, v) {
		l = append(l, result(x.labels, grouped(fn, x.values)))
	}
	return sorted(l)
}

// join is Join for valid arguments.
func join(op int, names []string, a, b []api.Result) (l []api.Result) {
	others := gather(names, b)
	for key, x := range gather(names, a) {
		y := others[key]
		if len(x.values) == 1 && len(y.values) == 1 {
			value, _ := number.Do(op, x.values[0], y.values[0])
			l = append(l, result(x.labels, value))
		}
	}
	return sorted(l)
}

// scale is Scale for valid arguments.
func scale(op int, n int64, v []api.Result) (l []api.Result) {
	for _, x := range v {
		value, _ := number.Do(op, x.Value, number.Of(n))
		l = append(l, result(x.Labels, value))
	}
	return l
}

// filter is Filter for valid arguments.
func filter(op int, n int64, v []api.Result) (l []api.Result) {
	for _, x := range v {
		if is, _ := number.Is(op, x.Value, n); is {
			l = append(l, result(x.Labels, x.Value))
		}
	}
	return l
}

// gather returns the sets of the results of v that have the same labels with
// these names, by the keys of these labels.
func gather(names []string, v []api.Result) map[string]set {
	sets := map[string]set{}
	for _, x := range v {
		labels := label.Only(x.Labels, names)
		key := label.Key(labels)
		sets[key] = set{labels: labels, values: append(sets[key].values, x.Value)}
	}
	return sets
}

// sorted returns results, which are no more than a vector has and have
// different labels, in the order of their labels.
func sorted(l []api.Result) []api.Result {
	v, _ := sample.Sort(l)
	return v
}

// result returns a result with labels of its own.
func result(labels []api.Label, v api.Value) api.Result {
	return api.Result{Labels: slices.Clone(labels), Value: v}
}
