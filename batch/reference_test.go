package batch_test

import (
	"cmp"
	"math/big"
	"slices"
	"strconv"
	"strings"

	"waterwheel/api"
	"waterwheel/label"
)

// The reference says the same as the chapter, by exact integers and by asking
// each sample and each pair of results. A nil integer is over.

// list returns labels with these names and texts.
func list(pairs ...string) []api.Label {
	var l []api.Label
	for pair := range slices.Chunk(pairs, 2) {
		l = append(l, api.Label{Name: pair[0], Text: pair[1]})
	}
	return l
}

// result returns a result with a number.
func result(n int64, pairs ...string) api.Result {
	return api.Result{Labels: list(pairs...), Value: api.Value{N: n}}
}

// over returns a result that is over.
func over(pairs ...string) api.Result {
	return api.Result{Labels: list(pairs...), Value: api.Value{Over: true}}
}

// of returns a sample.
func of(metric string, time, n int64, pairs ...string) api.Sample {
	return api.Sample{Series: api.Series{Metric: metric, Labels: list(pairs...)}, Time: time, N: n}
}

// exact returns a value as an integer.
func exact(v api.Value) *big.Int {
	if v.Over {
		return nil
	}
	return big.NewInt(v.N)
}

// exacts returns values as integers, and whether one of them is over.
func exacts(values []api.Value) (l []*big.Int, isOver bool) {
	for _, v := range values {
		l = append(l, exact(v))
		isOver = isOver || v.Over
	}
	return l, isOver
}

// value returns an integer as a value.
func value(n *big.Int) api.Value {
	if n == nil || !n.IsInt64() {
		return api.Value{Over: true}
	}
	return api.Value{N: n.Int64()}
}

// refSum returns the sum of integers.
func refSum(l []*big.Int) *big.Int {
	n := new(big.Int)
	for _, x := range l {
		n.Add(n, x)
	}
	return n
}

// refBest returns the integer that compares as sign to all others.
func refBest(l []*big.Int, sign int) *big.Int {
	best := l[0]
	for _, x := range l {
		if x.Cmp(best) == sign {
			best = x
		}
	}
	return best
}

// refIncrease returns the increase of integers.
func refIncrease(l []*big.Int) *big.Int {
	n := new(big.Int)
	for i, x := range l[1:] {
		step := x
		if x.Cmp(l[i]) >= 0 {
			step = new(big.Int).Sub(x, l[i])
		}
		n.Add(n, step)
	}
	return n
}

// refWindow returns the value of a function of a window.
func refWindow(fn int, values []api.Value) api.Value {
	switch fn {
	case api.FnCount:
		return value(big.NewInt(int64(len(values))))
	case api.FnLast:
		return values[len(values)-1]
	}
	l, isOver := exacts(values)
	switch {
	case isOver:
		return api.Value{Over: true}
	case fn == api.FnSum:
		return value(refSum(l))
	case fn == api.FnMin:
		return value(refBest(l, -1))
	case fn == api.FnMax:
		return value(refBest(l, 1))
	}
	return value(refIncrease(l))
}

// refGrouped returns the value of a function of a group.
func refGrouped(fn int, values []api.Value) api.Value {
	return refWindow([]int{api.GrTotal: api.FnSum, api.GrMany: api.FnCount, api.GrLeast: api.FnMin, api.GrMost: api.FnMax}[fn], values)
}

// refDo returns the result of an operator.
func refDo(op int, a, b api.Value) api.Value {
	if a.Over || b.Over {
		return api.Value{Over: true}
	}
	n := new(big.Int)
	switch op {
	case api.OpAdd:
		n.Add(exact(a), exact(b))
	case api.OpSub:
		n.Sub(exact(a), exact(b))
	case api.OpMul:
		n.Mul(exact(a), exact(b))
	}
	return value(n)
}

// refIs returns the result of a comparison.
func refIs(op int, v api.Value, n int64) bool {
	order := cmp.Compare(v.N, n)
	return !v.Over && map[int]bool{
		api.OpLess: order < 0, api.OpMost: order <= 0, api.OpMore: order > 0,
		api.OpLeast: order >= 0, api.OpEq: order == 0, api.OpNe: order != 0,
	}[op]
}

// refCompare compares sets of labels.
func refCompare(a, b []api.Label) int {
	return slices.CompareFunc(a, b, func(x, y api.Label) int {
		return cmp.Or(strings.Compare(x.Name, y.Name), strings.Compare(x.Text, y.Text))
	})
}

// refOnly returns the labels that have one of names.
func refOnly(l []api.Label, names []string) (own []api.Label) {
	for _, name := range names {
		for _, x := range l {
			if x.Name == name {
				own = append(own, x)
			}
		}
	}
	return own
}

// refAt returns the values of the results whose labels with these names are l.
func refAt(names []string, v []api.Result, l []api.Label) (values []api.Value) {
	for _, x := range v {
		if slices.Equal(refOnly(x.Labels, names), l) {
			values = append(values, x.Value)
		}
	}
	return values
}

// refAdd adds a result to v, unless there is one with the same labels.
func refAdd(v []api.Result, l []api.Label, x api.Value) []api.Result {
	at, is := slices.BinarySearchFunc(v, l, func(x api.Result, l []api.Label) int { return refCompare(x.Labels, l) })
	if is {
		return v
	}
	return slices.Insert(v, at, api.Result{Labels: slices.Clone(l), Value: x})
}

// refGroup returns the vector of a group.
func refGroup(fn int, names []string, v []api.Result) (w []api.Result) {
	for _, x := range v {
		l := refOnly(x.Labels, names)
		w = refAdd(w, l, refGrouped(fn, refAt(names, v, l)))
	}
	return w
}

// refJoin returns the vector of a join.
func refJoin(op int, names []string, a, b []api.Result) (w []api.Result) {
	for _, x := range a {
		l := refOnly(x.Labels, names)
		first, second := refAt(names, a, l), refAt(names, b, l)
		if len(first) == 1 && len(second) == 1 {
			w = refAdd(w, l, refDo(op, first[0], second[0]))
		}
	}
	return w
}

// refScale returns the vector of a scale.
func refScale(op int, n int64, v []api.Result) (w []api.Result) {
	for _, x := range v {
		w = refAdd(w, x.Labels, refDo(op, x.Value, api.Value{N: n}))
	}
	return w
}

// refFilter returns the vector of a filter.
func refFilter(op int, n int64, v []api.Result) (w []api.Result) {
	for _, x := range v {
		if refIs(op, x.Value, n) {
			w = refAdd(w, x.Labels, x.Value)
		}
	}
	return w
}

// refLeaf returns the vector of a window.
func refLeaf(e api.Expr, l []api.Sample, at int64) (w []api.Result) {
	l = slices.Clone(l)
	slices.SortFunc(l, func(a, b api.Sample) int { return cmp.Compare(a.Time, b.Time) })
	for _, x := range l {
		var values []api.Value
		for _, y := range l {
			if y.Metric == e.Metric && slices.Equal(y.Labels, x.Labels) && at-e.Span < y.Time && y.Time <= at {
				values = append(values, api.Value{N: y.N})
			}
		}
		if len(values) > 0 && label.Takes(e.Match, x.Labels) {
			w = refAdd(w, x.Labels, refWindow(e.Func, values))
		}
	}
	return w[:min(len(w), 4096)]
}

// refEval returns the result of an expression at a time.
func refEval(e api.Expr, l []api.Sample, at int64) []api.Result {
	var kids [][]api.Result
	for _, kid := range e.Kids {
		kids = append(kids, refEval(kid, l, at))
	}
	switch e.Kind {
	case api.ExGroup:
		return refGroup(e.Func, e.Names, kids[0])
	case api.ExJoin:
		return refJoin(e.Op, e.Names, kids[0], kids[1])
	case api.ExScale:
		return refScale(e.Op, e.Num, kids[0])
	case api.ExFilter:
		return refFilter(e.Op, e.Num, kids[0])
	}
	return refLeaf(e, l, at)
}

// A dice gives numbers that look like chance.
type dice uint64

// of returns a number from 0 to n - 1.
func (d *dice) of(n int) int {
	*d = *d*6364136223846793005 + 1442695040888963407
	return int(*d >> 33 % dice(n))
}

// number returns a number that is small, or near a limit.
func (d *dice) number() int64 {
	n := int64(d.of(7)) - 3
	return []int64{n, n, n, n * 10, 1<<63 - 1 - max(n, 0), -1<<63 + max(n, 0), 1<<62 + n, -1<<62 - n, 1<<32 + n}[d.of(9)]
}

// labels returns a set of labels. The names do not have the order of their
// sizes, nor do the texts.
func (d *dice) labels() (l []api.Label) {
	for _, name := range []string{"a", "aa", "b"} {
		if text := []string{"", "x", "xx", "y"}[d.of(4)]; text != "" {
			l = append(l, api.Label{Name: name, Text: text})
		}
	}
	return l
}

// names returns valid Names.
func (d *dice) names() []string {
	return [][]string{nil, {"a"}, {"aa"}, {"b"}, {"a", "b"}, {"aa", "b"}, {"a", "aa", "b"}, {"c"}, {"b", "c"}}[d.of(9)]
}

// vector returns a vector of at most n results.
func (d *dice) vector(n int) (v []api.Result) {
	for range d.of(n + 1) {
		x := api.Value{N: d.number()}
		if d.of(9) == 0 {
			x = api.Value{Over: true}
		}
		v = refAdd(v, d.labels(), x)
	}
	return v
}

// store returns a store of at most n samples up to a time.
func (d *dice) store(n, most int) (l []api.Sample) {
	there := map[string]bool{}
	for range n {
		x := of([]string{"cpu", "disk", "c"}[d.of(3)], int64(1+d.of(most)), d.number())
		x.Labels = d.labels()
		key := x.Metric + label.Text(x.Labels) + strconv.FormatInt(x.Time, 10)
		if !there[key] {
			there[key] = true
			l = append(l, x)
		}
	}
	return l
}

// match returns valid matchers.
func (d *dice) match() (m []api.Matcher) {
	for range max(d.of(5)-2, 0) {
		m = append(m, api.Matcher{
			Kind: api.MatchIs + d.of(2), Name: []string{"a", "aa", "b", "c"}[d.of(4)], Text: []string{"", "x", "y"}[d.of(3)],
		})
	}
	return m
}

// expr returns a valid expression of at most a depth.
func (d *dice) expr(deep int) api.Expr {
	kind := api.ExWindow
	if deep > 1 {
		kind = 1 + d.of(5)
	}
	e := api.Expr{Kind: kind}
	switch kind {
	case api.ExWindow:
		e.Func, e.Span = 1+d.of(6), int64(1+d.of(12))
		e.Metric, e.Match = []string{"cpu", "disk"}[d.of(2)], d.match()
		return e
	case api.ExGroup:
		e.Func, e.Names = 1+d.of(4), d.names()
	case api.ExJoin:
		e.Op, e.Names = 1+d.of(3), d.names()
		e.Kids = []api.Expr{d.expr(deep - 1)}
	case api.ExScale:
		e.Op, e.Num = 1+d.of(3), d.number()
	case api.ExFilter:
		e.Op, e.Num = 4+d.of(6), d.number()
	}
	e.Kids = append(e.Kids, d.expr(deep-1))
	return e
}

// copyOf returns results that share nothing with v.
func copyOf(v []api.Result) []api.Result {
	own := slices.Clone(v)
	for i := range own {
		own[i].Labels = slices.Clone(own[i].Labels)
	}
	return own
}

// shuffled returns a list in an order that looks like chance.
func shuffled[E any](l []E, seed int) []E {
	d := dice(seed)
	l = slices.Clone(l)
	for i := range l {
		j := d.of(i + 1)
		l[i], l[j] = l[j], l[i]
	}
	return l
}
