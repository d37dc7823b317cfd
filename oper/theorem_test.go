package oper_test

import (
	"slices"
	"testing"

	"waterwheel/api"
	"waterwheel/ast"
	"waterwheel/batch"
	"waterwheel/group"
	"waterwheel/oper"
	"waterwheel/parse"
	"waterwheel/plan"
	"waterwheel/sample"
)

// A taken has samples that a leaf took, each once.
type taken []api.Sample

// add adds a sample, unless there is one of its series and time: one that is not
// kept may be taken again.
func (l *taken) add(s api.Sample) {
	if !slices.ContainsFunc(*l, func(x api.Sample) bool { return x.Time == s.Time && slices.Equal(x.Labels, s.Labels) }) {
		*l = append(*l, s)
	}
}

// wantEval checks a vector at a time against what batch returns for an expression
// and samples.
func wantEval(t *testing.T, e api.Expr, l []api.Sample, time int64, v []api.Result) {
	t.Helper()
	if want, wrong := batch.Eval(e, l, time); wrong != api.OK || !sample.Same(v, want) {
		t.Fatalf("%s at %d, of %s: %s, but batch returns %s, error %d", short(e), time, short(l), short(v), short(want), wrong)
	}
}

// follow applies batches to a vector, and calls each with every time and the
// vector then.
func follow(t *testing.T, v []api.Result, l []api.Batch, each func(time int64, v []api.Result)) []api.Result {
	t.Helper()
	for _, b := range l {
		var e api.Errno
		if v, e = group.Apply(v, b.Changes); e != api.OK {
			t.Fatalf("changes %s: error %d", short(b), e)
		}
		if each != nil {
			each(b.Time, v)
		}
	}
	return v
}

// P18.5, P18.2, P18.4: leaves with samples and passes that look like chance,
// against the reference and batch.Eval, also after reads.
func TestLeavesByChance(t *testing.T) {
	d, results, points := dice(3), 0, 0
	for range 900 {
		n, mark := d.leaf(), int64(d.of(30))
		x, all, v := made(t, n, mark), taken(nil), []api.Result(nil)
		for range 12 {
			for range d.of(14) {
				s := d.sample(x.r.told)
				e, want := x.o.Sample(s), x.r.sample(s)
				if e != want {
					t.Fatalf("sample %s: error %d, not %d", short(s), e, want)
				}
				if e == api.OK {
					all.add(s)
				}
			}
			x.check(t)
			points += len(x.o.Kept())
			l := x.pass(t, x.r.told+int64(d.of(15)))
			v = follow(t, v, l, func(time int64, v []api.Result) {
				results += len(v)
				wantEval(t, n.Expr, all, time, v)
			})
			x.check(t)
			if !sample.Same(v, x.o.Vector()) {
				t.Fatalf("the batches give %s, the vector is %s", short(v), short(x.o.Vector()))
			}
			if d.of(3) == 0 {
				x.again(t)
				x.check(t)
			}
		}
	}
	if results < 15000 || points < 15000 {
		t.Errorf("only %d results and %d points", results, points)
	}
}

// P18.5: all lists of five calls of a leaf: samples of two series, one or two
// times later, and passes.
func TestEveryCallOfLeaf(t *testing.T) {
	calls := []func(x *pair, last *int64){
		func(x *pair, last *int64) { *last++; x.sample(t, of(*last, 3)) },
		func(x *pair, last *int64) { *last += 2; x.sample(t, of(*last, -1, "a", "x")) },
		func(x *pair, last *int64) { x.sample(t, of(*last, 5, "a", "x")) },
		func(x *pair, last *int64) { x.pass(t, *last); *last = max(*last, x.r.told) },
		func(x *pair, last *int64) { *last++; x.pass(t, *last) },
		func(x *pair, _ *int64) { x.again(t) },
	}
	for _, n := range []api.Node{leaf(1, api.FnSum, 1), leaf(2, api.FnSum, 3), leaf(3, api.FnMin, 2), leaf(2, api.FnLast, 1), leaf(3, api.FnIncrease, 5)} {
		for list := range 6 * 6 * 6 * 6 * 6 {
			x, last := made(t, n, 0), int64(0)
			for range 5 {
				calls[list%len(calls)](x, &last)
				list /= len(calls)
			}
			x.check(t)
			x.pass(t, last+9)
			x.check(t)
		}
	}
}

// outputOf returns what batch makes of the vectors of sides.
func outputOf(n api.Node, sides ...[]api.Result) []api.Result {
	r := reference{node: n}
	for _, v := range sides {
		r.sides = append(r.sides, refSide{results: v})
	}
	return r.output()
}

// P18.5, P18.3, P18.4: other operators with batches that look like chance, against
// the reference, and what batch makes of the vectors of the sides then, also after
// reads.
func TestOthersByChance(t *testing.T) {
	d, results, waits := dice(4), 0, 0
	for range 1500 {
		n := d.other()
		mark := int64(d.of(30))
		x, v := made(t, n, mark), []api.Result(nil)
		// What each side has at each time, from the first one on.
		vectors := make([][][]api.Result, len(n.In))
		first := mark - mark%n.Every + n.Every
		for range 16 {
			side := d.of(len(n.In))
			b := at(first+n.Every*int64(len(vectors[side])), d.changes(5)...)
			if d.of(9) == 0 {
				b.Time += int64(d.of(3)) - 1
			}
			l := x.take(t, side+1, b)
			if b.Time == first+n.Every*int64(len(vectors[side])) {
				var before []api.Result
				if k := len(vectors[side]); k > 0 {
					before = vectors[side][k-1]
				}
				vectors[side] = append(vectors[side], refApply(before, b.Changes))
			}
			v = follow(t, v, l, func(time int64, v []api.Result) {
				var then [][]api.Result
				for _, l := range vectors {
					then = append(then, l[(time-first)/n.Every])
				}
				if want := outputOf(n, then...); !sample.Same(v, want) || time != b.Time {
					t.Fatalf("%s at %d: %s, not %s", dumpNode(n), time, short(v), short(want))
				}
				results += len(v)
			})
			x.check(t)
			waits += x.o.Waits(1) + x.o.Waits(2)
			if d.of(4) == 0 {
				x.again(t)
				x.check(t)
			}
		}
	}
	if results < 10000 || waits < 10000 {
		t.Errorf("only %d results, and %d batches that wait", results, waits)
	}
}

// P18.5: an operator that was read continues in the same way as the one that it
// was read from, again and again.
func TestReadContinues(t *testing.T) {
	d := dice(6)
	for range 200 {
		n := d.other()
		x := made(t, n, 0)
		for range 5 {
			y := pair{read(t, string(x.o.Bytes())), copyReference(x.r)}
			for i := range 8 {
				side := 1 + d.of(len(n.In))
				last := x.r.told
				if w := x.r.sides[side-1].waits; len(w) > 0 {
					last = w[len(w)-1].Time
				}
				b := at(last-last%n.Every+n.Every, d.changes(5)...)
				x.take(t, side, b)
				if i < 5 {
					y.take(t, side, b)
					y.check(t)
				}
			}
			x.check(t)
		}
	}
	for range 200 {
		x := made(t, d.leaf(), 0)
		for range 5 {
			y := pair{read(t, string(x.o.Bytes())), copyReference(x.r)}
			for range 12 {
				s, to := d.sample(x.r.told), x.r.told+int64(d.of(4))
				x.sample(t, s)
				y.sample(t, s)
				x.pass(t, to)
				y.pass(t, to)
				y.check(t)
			}
			x.check(t)
		}
	}
}

// A network has an operator for each node of a plan.
type network struct {
	nodes []api.Node
	opers []*oper.Oper
}

// newNetwork returns the operators of a query.
func newNetwork(t *testing.T, q api.Query) *network {
	t.Helper()
	p, _, e := plan.Of([]api.Query{q})
	if e != api.OK {
		t.Fatal(e)
	}
	w := &network{nodes: p}
	for _, n := range p {
		o, e := oper.New(n, 0)
		if e != api.OK {
			t.Fatal(e)
		}
		w.opers = append(w.opers, o)
	}
	return w
}

// sample gives a sample to all leaves that take it.
func (w *network) sample(t *testing.T, s api.Sample) {
	t.Helper()
	for i, o := range w.opers {
		want := api.OK
		if w.nodes[i].Expr.Kind != api.ExWindow {
			want = api.ErrState
		} else if !refTakes(w.nodes[i].Expr, s.Series) {
			want = api.ErrArg
		}
		if e := o.Sample(s); e != want {
			t.Fatalf("%s: sample %s: error %d, not %d", dumpNode(w.nodes[i]), short(s), e, want)
		}
	}
}

// send gives batches of a node to all that it feeds.
func (w *network) send(t *testing.T, node int, l []api.Batch) {
	t.Helper()
	for i, n := range w.nodes {
		for side, in := range n.In {
			if in != node {
				continue
			}
			for _, b := range l {
				more, e := w.opers[i].Take(side+1, b)
				if e != api.OK {
					t.Fatalf("%s: take of %d, %s: error %d", dumpNode(n), side+1, short(b), e)
				}
				w.send(t, i+1, more)
			}
		}
	}
}

// pass passes a time, first with the leaves that are picked.
func (w *network) pass(t *testing.T, d *dice, time int64) {
	t.Helper()
	leaves := plan.Leaves(w.nodes)
	for len(leaves) > 0 {
		i := d.of(len(leaves))
		l, e := w.opers[leaves[i]-1].Pass(time)
		if e != api.OK {
			t.Fatalf("pass: error %d", e)
		}
		w.send(t, leaves[i], l)
		leaves = slices.Delete(leaves, i, i+1)
	}
}

// again replaces each operator by the one that is read from its bytes.
func (w *network) again(t *testing.T) {
	t.Helper()
	for i, o := range w.opers {
		w.opers[i] = read(t, string(o.Bytes()))
	}
}

// P18.5: operators that feed one another have, each of them, what batch.Eval
// returns for its part of the query.
func TestNetworks(t *testing.T) {
	d := dice(8)
	for _, s := range []string{
		"every 5: sum(cpu[10])", "every 5: sum(cpu[10]) * 2", "every 3: total by (a) (last(cpu[4])) > 3", "every 2: max(cpu[7]) - on (a) min(cpu{b=\"\"}[3])",
		"every 4: sum(cpu[5]) + on (a, b) sum(cpu[5])", "every 1: most by (a) (count(cpu[3])) * on (a) many by (a, b) (increase(cpu[9]) != 0) - 7",
		"every 7: least by (b) (sum(cpu[7]) * 4611686018427387904) + on () total by () (max(cpu{a!=\"x\"}[2]))",
	} {
		q, f := parse.Query(s)
		if f != (api.Fault{}) {
			t.Fatal(s, f)
		}
		for range 25 {
			w, all, last := newNetwork(t, q), []api.Sample(nil), int64(0)
			for time := int64(0); time < 80; {
				last = max(last, time)
				for range d.of(20) {
					last += int64(d.of(2))
					x := of(last+1, int64(d.of(9)-3))
					x.Labels = d.labels()
					if !slices.ContainsFunc(all, func(y api.Sample) bool { return y.Time == x.Time && slices.Equal(y.Labels, x.Labels) }) {
						all = append(all, x)
						w.sample(t, x)
					}
				}
				time += int64(d.of(12))
				w.pass(t, &d, time)
				if d.of(2) == 0 {
					w.again(t)
				}
				wantNetwork(t, w, all, time)
			}
		}
	}
}

// wantNetwork checks the vector of each node when a time was passed.
func wantNetwork(t *testing.T, w *network, all []api.Sample, time int64) {
	t.Helper()
	for i, o := range w.opers {
		q, e := plan.Query(w.nodes, i+1)
		last := time - time%q.Every
		if e != api.OK || ast.Check(q) != api.OK || o.Told() < last || o.Told() > time {
			t.Fatalf("node %d has emitted up to %d, not %d, error %d", i+1, o.Told(), last, e)
		}
		wantEval(t, q.Expr, all, last, o.Vector())
	}
}
