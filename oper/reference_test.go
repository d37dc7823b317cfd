package oper_test

import (
	"cmp"
	"fmt"
	"slices"
	"strings"
	"testing"

	"waterwheel/api"
	"waterwheel/batch"
	"waterwheel/group"
	"waterwheel/label"
	"waterwheel/oper"
	"waterwheel/sample"
)

// list returns labels with these names and texts.
func list(pairs ...string) []api.Label {
	var l []api.Label
	for pair := range slices.Chunk(pairs, 2) {
		l = append(l, api.Label{Name: pair[0], Text: pair[1]})
	}
	return l
}

// of returns a sample of cpu.
func of(time, n int64, pairs ...string) api.Sample {
	return api.Sample{Series: api.Series{Metric: "cpu", Labels: list(pairs...)}, Time: time, N: n}
}

// result returns a result with a number, and over one that is over.
func result(n int64, pairs ...string) api.Result {
	return api.Result{Labels: list(pairs...), Value: api.Value{N: n}}
}

func over(pairs ...string) api.Result {
	return api.Result{Labels: list(pairs...), Value: api.Value{Over: true}}
}

// put returns a change to a number, putOver one to a value that is over, and
// gone one by which something goes.
func put(n int64, pairs ...string) api.Change {
	return api.Change{Labels: list(pairs...), Value: api.Value{N: n}}
}

func putOver(pairs ...string) api.Change {
	return api.Change{Labels: list(pairs...), Value: api.Value{Over: true}}
}

func gone(pairs ...string) api.Change {
	return api.Change{Labels: list(pairs...), Gone: true}
}

// at returns a batch.
func at(time int64, l ...api.Change) api.Batch {
	return api.Batch{Time: time, Changes: l}
}

// point returns a point.
func point(time, n int64) api.Point {
	return api.Point{Time: time, Value: api.Value{N: n}}
}

// is and not return matchers.
func is(name, text string) api.Matcher {
	return api.Matcher{Kind: api.MatchIs, Name: name, Text: text}
}

func not(name, text string) api.Matcher {
	return api.Matcher{Kind: api.MatchNot, Name: name, Text: text}
}

// leaf, grouped, joined, scaled and filtered return valid nodes.
func leaf(every int64, fn int, span int64, match ...api.Matcher) api.Node {
	return api.Node{Every: every, Expr: api.Expr{Kind: api.ExWindow, Func: fn, Metric: "cpu", Match: match, Span: span}}
}

func grouped(every int64, fn int, names ...string) api.Node {
	return api.Node{Every: every, Expr: api.Expr{Kind: api.ExGroup, Func: fn, Names: names}, In: []int{7}}
}

func joined(every int64, op int, names ...string) api.Node {
	return api.Node{Every: every, Expr: api.Expr{Kind: api.ExJoin, Op: op, Names: names}, In: []int{1, 2}}
}

func scaled(every int64, op int, n int64) api.Node {
	return api.Node{Every: every, Expr: api.Expr{Kind: api.ExScale, Op: op, Num: n}, In: []int{1000}}
}

func filtered(every int64, op int, n int64) api.Node {
	return api.Node{Every: every, Expr: api.Expr{Kind: api.ExFilter, Op: op, Num: n}, In: []int{1}}
}

// others returns a node of each kind and of each function or operator, but those
// that are leaves.
func others(every int64) (l []api.Node) {
	for i := api.GrTotal; i <= api.GrMost; i++ {
		l = append(l, grouped(every, i), grouped(every, i, "a"))
	}
	for i := api.OpAdd; i <= api.OpMul; i++ {
		l = append(l, joined(every, i), joined(every, i, "a"), joined(every, i, "a", "b"), scaled(every, i, 2))
	}
	for i := api.OpLess; i <= api.OpNe; i++ {
		l = append(l, filtered(every, i, 1))
	}
	return l
}

// refCompare compares sets of labels.
func refCompare(a, b []api.Label) int {
	return slices.CompareFunc(a, b, func(x, y api.Label) int {
		return cmp.Or(strings.Compare(x.Name, y.Name), strings.Compare(x.Text, y.Text))
	})
}

// refFind returns where labels are in a vector, or would be.
func refFind(v []api.Result, l []api.Label) (int, bool) {
	return slices.BinarySearchFunc(v, l, func(x api.Result, l []api.Label) int { return refCompare(x.Labels, l) })
}

// refChanges returns the changes between two vectors: it asks for each labels of
// either.
func refChanges(a, b []api.Result) (l []api.Change) {
	for _, x := range b {
		if i, is := refFind(a, x.Labels); !is || a[i].Value != x.Value {
			l = append(l, api.Change{Labels: x.Labels, Value: x.Value})
		}
	}
	for _, x := range a {
		if _, is := refFind(b, x.Labels); !is {
			l = append(l, api.Change{Labels: x.Labels, Gone: true})
		}
	}
	slices.SortFunc(l, func(x, y api.Change) int { return refCompare(x.Labels, y.Labels) })
	return l
}

// refApply applies changes to a vector, one after the other.
func refApply(v []api.Result, l []api.Change) []api.Result {
	v = copyOf(v)
	for _, c := range l {
		i, is := refFind(v, c.Labels)
		if is {
			v = slices.Delete(v, i, i+1)
		}
		if !c.Gone {
			v = slices.Insert(v, i, api.Result{Labels: slices.Clone(c.Labels), Value: c.Value})
		}
	}
	return v
}

// refTakes reports whether a leaf takes a series, by asking each matcher.
func refTakes(x api.Expr, s api.Series) bool {
	for _, m := range x.Match {
		text := ""
		for _, l := range s.Labels {
			if l.Name == m.Name {
				text = l.Text
			}
		}
		if (text == m.Text) != (m.Kind == api.MatchIs) {
			return false
		}
	}
	return x.Metric == s.Metric
}

// A reference is what an operator has. It says the same as the chapter, by asking
// each point and each batch again.
type reference struct {
	node   api.Node
	told   int64
	vector []api.Result
	series []refSeries // of a leaf, in any order
	sides  []refSide   // of any other operator
}

// A refSeries has a series with its points.
type refSeries struct {
	api.Series
	points []api.Point
}

// A refSide has results, and the batches that wait.
type refSide struct {
	results []api.Result
	waits   []api.Batch
}

// isLeaf reports whether it is that of a leaf.
func (r reference) isLeaf() bool {
	return r.node.Expr.Kind == 1
}

// next returns the first time of the grid above a time.
func (r reference) next(time int64) (int64, bool) {
	t := (time/r.node.Every + 1) * r.node.Every
	if t > 1<<40 {
		return 0, false
	}
	return t, true
}

// keeps reports whether a point at a time is kept.
func (r reference) keeps(time int64) bool {
	next, is := r.next(r.told)
	return is && time > next-r.node.Expr.Span
}

// sample says what Sample says.
func (r *reference) sample(s api.Sample) api.Errno {
	if !r.isLeaf() {
		return api.ErrState
	}
	if e := sample.Check(s); e != api.OK {
		return e
	}
	if !refTakes(r.node.Expr, s.Series) {
		return api.ErrArg
	}
	i := slices.IndexFunc(r.series, func(x refSeries) bool { return refCompare(x.Labels, s.Labels) == 0 })
	if s.Time <= r.told || i >= 0 && s.Time <= r.series[i].points[len(r.series[i].points)-1].Time {
		return api.ErrLate
	}
	if !r.keeps(s.Time) {
		return api.OK
	}
	if i < 0 {
		i = len(r.series)
		r.series = append(r.series, refSeries{Series: api.Series{Metric: s.Metric, Labels: slices.Clone(s.Labels)}})
	}
	r.series[i].points = append(slices.Clone(r.series[i].points), point(s.Time, s.N))
	return api.OK
}

// pass says what Pass says.
func (r *reference) pass(time int64) (l []api.Batch, e api.Errno) {
	if !r.isLeaf() {
		return nil, api.ErrState
	}
	if time < 0 || time > 1<<40 {
		return nil, api.ErrArg
	}
	if time < r.told {
		return nil, api.ErrLate
	}
	if time/r.node.Every-r.told/r.node.Every > 1000 {
		return nil, api.ErrLong
	}
	for t, is := r.next(r.told); is && t <= time; t, is = r.next(t) {
		l = append(l, r.emit(t, r.window(t)))
	}
	r.told = time
	var kept []refSeries
	for _, x := range r.series {
		x.points = slices.DeleteFunc(slices.Clone(x.points), func(p api.Point) bool { return !r.keeps(p.Time) })
		if len(x.points) > 0 {
			kept = append(kept, x)
		}
	}
	r.series = kept
	return l, api.OK
}

// window returns the vector of a leaf at a time.
func (r reference) window(t int64) (v []api.Result) {
	for _, x := range r.series {
		var in []api.Point
		for _, p := range x.points {
			if t-r.node.Expr.Span < p.Time && p.Time <= t {
				in = append(in, p)
			}
		}
		if value, is := batch.Window(r.node.Expr.Func, in); is {
			v = append(v, api.Result{Labels: x.Labels, Value: value})
		}
	}
	slices.SortFunc(v, func(x, y api.Result) int { return refCompare(x.Labels, y.Labels) })
	return v[:min(len(v), 4096)]
}

// emit returns the batch by which the vector becomes v.
func (r *reference) emit(t int64, v []api.Result) api.Batch {
	b := at(t, refChanges(r.vector, v)...)
	r.told, r.vector = t, v
	return b
}

// take says what Take says.
func (r *reference) take(side int, b api.Batch) ([]api.Batch, api.Errno) {
	if r.isLeaf() {
		return nil, api.ErrState
	}
	if side < 1 || side > len(r.sides) {
		return nil, api.ErrArg
	}
	for _, c := range b.Changes {
		if group.CheckChange(c) != api.OK {
			return nil, api.ErrArg
		}
	}
	r.sides = slices.Clone(r.sides)
	s := &r.sides[side-1]
	last, results := r.told, s.results
	for _, w := range s.waits {
		last, results = w.Time, refApply(results, w.Changes)
	}
	if next, is := r.next(last); !is || b.Time != next {
		return nil, api.ErrState
	}
	if len(s.waits) >= 1000 || len(refApply(results, b.Changes)) > 4096 {
		return nil, api.ErrLong
	}
	s.waits = append(slices.Clone(s.waits), copyBatch(b))
	for _, s := range r.sides {
		if len(s.waits) == 0 {
			return nil, api.OK
		}
	}
	for i := range r.sides {
		r.sides[i].results = refApply(r.sides[i].results, r.sides[i].waits[0].Changes)
		r.sides[i].waits = r.sides[i].waits[1:]
	}
	return []api.Batch{r.emit(b.Time, r.output())}, api.OK
}

// output returns what batch makes of the results of the sides.
func (r reference) output() (v []api.Result) {
	x := r.node.Expr
	switch x.Kind {
	case api.ExGroup:
		v, _ = batch.Group(x.Func, x.Names, r.sides[0].results)
	case api.ExJoin:
		v, _ = batch.Join(x.Op, x.Names, r.sides[0].results, r.sides[1].results)
	case api.ExScale:
		v, _ = batch.Scale(x.Op, x.Num, r.sides[0].results)
	case api.ExFilter:
		v, _ = batch.Filter(x.Op, x.Num, r.sides[0].results)
	}
	return v
}

// byKey returns the series of a leaf by their keys.
func (r reference) byKey() []refSeries {
	l := slices.Clone(r.series)
	slices.SortFunc(l, func(x, y refSeries) int { return strings.Compare(seriesKey(x.Series), seriesKey(y.Series)) })
	return l
}

// kept says what Kept says.
func (r reference) kept() (l []api.Sample) {
	for _, x := range r.byKey() {
		for _, p := range x.points {
			l = append(l, api.Sample{Series: x.Series, Time: p.Time, N: p.N})
		}
	}
	return l
}

// refNode says whether a node is valid, kind by kind.
func refNode(n api.Node) bool {
	x := n.Expr
	kids, is := map[int]int{1: 0, 2: 1, 3: 2, 4: 1, 5: 1}[x.Kind]
	if !is || len(x.Kids) > 0 || len(n.In) != kids || n.Every < 1 || n.Every > 1<<30 {
		return false
	}
	for _, in := range n.In {
		if in < 1 || in > 1000 {
			return false
		}
	}
	none := api.Expr{Kind: x.Kind}
	switch x.Kind {
	case 1:
		if x.Func < 1 || x.Func > 6 || !label.Name(x.Metric) || label.CheckMatch(x.Match) != api.OK || x.Span < 1 || x.Span > 1<<30 {
			return false
		}
		none.Func, none.Metric, none.Match, none.Span = x.Func, x.Metric, x.Match, x.Span
	case 2:
		if x.Func < 1 || x.Func > 4 || !refNames(x.Names) {
			return false
		}
		none.Func, none.Names = x.Func, x.Names
	case 3:
		if x.Op < 1 || x.Op > 3 || !refNames(x.Names) {
			return false
		}
		none.Op, none.Names = x.Op, x.Names
	case 4:
		if x.Op < 1 || x.Op > 3 {
			return false
		}
		none.Op, none.Num = x.Op, x.Num
	case 5:
		if x.Op < 4 || x.Op > 9 {
			return false
		}
		none.Op, none.Num = x.Op, x.Num
	}
	return dumpNode(n) == dumpNode(api.Node{Every: n.Every, Expr: none, In: n.In})
}

// refNames says whether names are valid.
func refNames(l []string) bool {
	for i, s := range l {
		if !label.Name(s) || i > 0 && l[i-1] >= s {
			return false
		}
	}
	return len(l) <= 8
}

// valid says whether there is such an operator.
func (r reference) valid() bool {
	if !refNode(r.node) || r.told < 0 || r.told > 1<<40 || sample.CheckVector(r.vector) != api.OK {
		return false
	}
	if r.isLeaf() {
		return r.validSeries()
	}
	return r.validSides()
}

// validSeries says whether the series are those of a leaf, in their order here.
func (r reference) validSeries() bool {
	for i, x := range r.series {
		if sample.CheckSeries(x.Series) != api.OK || !refTakes(r.node.Expr, x.Series) || len(x.points) == 0 {
			return false
		}
		if i > 0 && seriesKey(r.series[i-1].Series) >= seriesKey(x.Series) {
			return false
		}
		for j, p := range x.points {
			if p.Time < 1 || p.Time > 1<<40 || !r.keeps(p.Time) || j > 0 && x.points[j-1].Time >= p.Time {
				return false
			}
		}
	}
	return true
}

// validSides says whether the sides are those of an operator that is no leaf.
func (r reference) validSides() bool {
	idle := false
	for _, s := range r.sides {
		if sample.CheckVector(s.results) != api.OK || len(s.waits) > 1000 {
			return false
		}
		last, v := r.told, s.results
		for _, b := range s.waits {
			next, is := r.next(last)
			if !is || b.Time != next {
				return false
			}
			for _, c := range b.Changes {
				if group.CheckChange(c) != api.OK {
					return false
				}
			}
			last, v = next, refApply(v, b.Changes)
			if len(v) > 4096 {
				return false
			}
		}
		idle = idle || len(s.waits) == 0
	}
	return len(r.sides) == len(r.node.In) && idle && sample.Same(r.vector, r.output())
}

// A pair is an operator, and what it should be.
type pair struct {
	o *oper.Oper
	r reference
}

// made returns a new operator, and its reference.
func made(t *testing.T, n api.Node, mark int64) *pair {
	t.Helper()
	o, e := oper.New(n, mark)
	if e != api.OK || o == nil {
		t.Fatalf("new of %s at %d: an operator %t, error %d", dumpNode(n), mark, o != nil, e)
	}
	return &pair{o, reference{node: n, told: mark, sides: make([]refSide, len(n.In))}}
}

// sample gives a sample to both, and checks the error.
func (x *pair) sample(t *testing.T, l ...api.Sample) {
	t.Helper()
	for _, s := range l {
		if e, want := x.o.Sample(s), x.r.sample(s); e != want {
			t.Fatalf("%s at %d: sample %s: error %d, not %d", dumpNode(x.r.node), x.r.told, short(s), e, want)
		}
	}
}

// pass passes a time with both, and checks what is returned.
func (x *pair) pass(t *testing.T, time int64) []api.Batch {
	t.Helper()
	before := x.r.told
	l, e := x.o.Pass(time)
	if want, wantE := x.r.pass(time); e != wantE || !sameBatches(l, want) {
		t.Fatalf("%s at %d: pass of %d: error %d, not %d, and %s, not %s", dumpNode(x.r.node), before, time, e, wantE, short(l), short(want))
	}
	return l
}

// take gives a batch to a side of both, and checks what is returned.
func (x *pair) take(t *testing.T, side int, b api.Batch) []api.Batch {
	t.Helper()
	before := x.r.told
	l, e := x.o.Take(side, b)
	if want, wantE := x.r.take(side, b); e != wantE || !sameBatches(l, want) {
		t.Fatalf("%s at %d: take of %d, %s: error %d, not %d, and %s, not %s", dumpNode(x.r.node), before, side, short(b), e, wantE, short(l), short(want))
	}
	return l
}

// again replaces the operator by the one that is read from its bytes.
func (x *pair) again(t *testing.T) {
	t.Helper()
	x.o = read(t, string(x.o.Bytes()))
}

// check checks all that the operator has.
func (x *pair) check(t *testing.T) {
	t.Helper()
	if v := x.o.Vector(); !sample.Same(v, x.r.vector) {
		t.Fatalf("%s: vector %s, not %s", dumpNode(x.r.node), short(v), short(x.r.vector))
	}
	if x.o.Told() != x.r.told {
		t.Fatalf("%s: told %d, not %d", dumpNode(x.r.node), x.o.Told(), x.r.told)
	}
	for side := -1; side < 5; side++ {
		want := 0
		if 1 <= side && side <= len(x.r.sides) {
			want = len(x.r.sides[side-1].waits)
		}
		if n := x.o.Waits(side); n != want {
			t.Fatalf("%s: %d batches wait on side %d, not %d", dumpNode(x.r.node), n, side, want)
		}
	}
	if n := x.o.Node(); dumpNode(n) != dumpNode(x.r.node) {
		t.Fatalf("node %s, not %s", dumpNode(n), dumpNode(x.r.node))
	}
	if l, want := x.o.Kept(), x.r.kept(); !slices.EqualFunc(l, want, sameSample) {
		t.Fatalf("%s: kept %s, not %s", dumpNode(x.r.node), short(l), short(want))
	}
	if b := string(x.o.Bytes()); b != x.r.bytes() {
		t.Fatalf("%s: bytes %s, not %s", dumpNode(x.r.node), short(b), short(x.r.bytes()))
	}
}

// read returns the operator that is read from some bytes.
func read(t *testing.T, b string) *oper.Oper {
	t.Helper()
	o, e := oper.Read([]byte(b))
	if e != api.OK || o == nil {
		t.Fatalf("read of %s: an operator %t, error %d", short(b), o != nil, e)
	}
	return o
}

// bad checks that some bytes are not those of an operator.
func bad(t *testing.T, b string) {
	t.Helper()
	if o, e := oper.Read([]byte(b)); o != nil || e != api.ErrBad {
		t.Errorf("read of %s: an operator %t, error %d", short(b), o != nil, e)
	}
}

// sameBatches reports whether batches are equal.
func sameBatches(a, b []api.Batch) bool {
	return slices.EqualFunc(a, b, func(x, y api.Batch) bool {
		return x.Time == y.Time && slices.EqualFunc(x.Changes, y.Changes, func(c, d api.Change) bool {
			return c.Value == d.Value && c.Gone == d.Gone && slices.Equal(c.Labels, d.Labels)
		})
	})
}

// sameSample reports whether samples are equal.
func sameSample(a, b api.Sample) bool {
	return a.Metric == b.Metric && slices.Equal(a.Labels, b.Labels) && a.Time == b.Time && a.N == b.N
}

// copyOf returns results that share nothing with v.
func copyOf(v []api.Result) []api.Result {
	v = slices.Clone(v)
	for i := range v {
		v[i].Labels = slices.Clone(v[i].Labels)
	}
	return v
}

// copyBatch returns a batch that shares nothing with b.
func copyBatch(b api.Batch) api.Batch {
	b.Changes = slices.Clone(b.Changes)
	for i := range b.Changes {
		b.Changes[i].Labels = slices.Clone(b.Changes[i].Labels)
	}
	return b
}

// copyReference returns a reference that shares no list of series or sides with r.
func copyReference(r reference) reference {
	r.series, r.sides = slices.Clone(r.series), slices.Clone(r.sides)
	for i := range r.series {
		r.series[i].points = slices.Clone(r.series[i].points)
	}
	for i := range r.sides {
		r.sides[i].waits = slices.Clone(r.sides[i].waits)
	}
	return r
}

// many returns a vector of n results.
func many(n int) (v []api.Result) {
	for i := range n {
		v = append(v, result(int64(i), "a", fmt.Sprint(10000+i), "b", string([]byte{byte('a' + i%5)})))
	}
	return v
}

// dumpNode returns all that a node has as a text.
func dumpNode(n api.Node) string {
	x := n.Expr
	return fmt.Sprintf("%d: %d %d %d %d %q %v %d %q %v %v", n.Every, x.Kind, x.Func, x.Op, x.Num, x.Metric, fmt.Sprintf("%q", fmt.Sprint(x.Match)), x.Span, x.Names, x.Kids, n.In)
}

// short returns a value as a text, cut off if it is long.
func short(x any) string {
	return fmt.Sprintf("%.300q", fmt.Sprint(x))
}
