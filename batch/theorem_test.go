package batch_test

import (
	"slices"
	"testing"

	"waterwheel/api"
	"waterwheel/ast"
	"waterwheel/batch"
	"waterwheel/grid"
	"waterwheel/sample"
)

// P10.3: a result does not depend on the order of the samples, and is a valid
// vector.
func TestOrder(t *testing.T) {
	d := dice(21)
	for i := range 1500 {
		e, l, at := d.expr(1+d.of(5)), d.store(1+d.of(40), 25), int64(d.of(30))
		want, wrong := batch.Eval(e, l, at)
		if wrong != api.OK || sample.CheckVector(want) != api.OK {
			t.Fatalf("%v of %v at %d: error %d and\n%s", e, l, at, wrong, sample.Lines(want))
		}
		for range 3 {
			l = shuffled(l, i)
			if v, again := batch.Eval(e, l, at); again != api.OK || !sample.Same(v, want) {
				t.Fatalf("%v of %v at %d: error %d and\n%snot\n%s", e, l, at, again, sample.Lines(v), sample.Lines(want))
			}
		}
	}
}

// P10.3: samples that are in no window change nothing.
func TestOutside(t *testing.T) {
	d, removed := dice(22), 0
	for range 1500 {
		e, l, at := d.expr(1+d.of(5)), d.store(1+d.of(60), 25), int64(d.of(30))
		leaves := ast.Leaves(e)
		inside := slices.DeleteFunc(slices.Clone(l), func(x api.Sample) bool {
			return !slices.ContainsFunc(leaves, func(w api.Expr) bool {
				return w.Metric == x.Metric && grid.In(w.Span, at, x.Time)
			})
		})
		removed += len(l) - len(inside)
		want, _ := batch.Eval(e, l, at)
		if v, wrong := batch.Eval(e, inside, at); wrong != api.OK || !sample.Same(v, want) {
			t.Fatalf("%v of %v at %d: error %d and\n%snot\n%s", e, inside, at, wrong, sample.Lines(v), sample.Lines(want))
		}
	}
	if removed < 10000 {
		t.Errorf("only %d samples were in no window", removed)
	}
}

// P10.3: the parts of a result are what the other calls make of them.
func TestParts(t *testing.T) {
	d := dice(23)
	for range 2000 {
		e, l, at := d.expr(2+d.of(3)), d.store(1+d.of(60), 25), int64(d.of(30))
		var kids [][]api.Result
		for _, kid := range e.Kids {
			v, _ := batch.Eval(kid, l, at)
			kids = append(kids, v)
		}
		var want []api.Result
		var wrong api.Errno
		switch e.Kind {
		case api.ExGroup:
			want, wrong = batch.Group(e.Func, e.Names, kids[0])
		case api.ExJoin:
			want, wrong = batch.Join(e.Op, e.Names, kids[0], kids[1])
		case api.ExScale:
			want, wrong = batch.Scale(e.Op, e.Num, kids[0])
		case api.ExFilter:
			want, wrong = batch.Filter(e.Op, e.Num, kids[0])
		default:
			continue
		}
		if v, _ := batch.Eval(e, l, at); wrong != api.OK || !sample.Same(v, want) {
			t.Fatalf("%v of %v at %d: error %d and\n%snot\n%s", e, l, at, wrong, sample.Lines(v), sample.Lines(want))
		}
	}
}
