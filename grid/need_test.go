package grid_test

import (
	"math"
	"math/big"
	"reflect"
	"slices"
	"testing"

	"waterwheel/api"
	"waterwheel/ast"
	"waterwheel/grid"
)

// leaf returns a window.
func leaf(span int64) api.Expr {
	return api.Expr{Kind: api.ExWindow, Func: api.FnSum, Metric: "cpu", Span: span}
}

// query returns a query with leaves of these spans, under expressions of all
// kinds.
func query(every int64, spans ...int64) api.Query {
	e := leaf(spans[0])
	for i, span := range spans[1:] {
		kids := [][]api.Expr{{e, leaf(span)}, {leaf(span), e}}[i%2]
		e = api.Expr{Kind: api.ExJoin, Op: api.OpAdd, Kids: kids}
		e = []api.Expr{
			{Kind: api.ExGroup, Func: api.GrMost, Names: []string{"a"}, Kids: []api.Expr{e}},
			{Kind: api.ExScale, Op: api.OpMul, Num: 99, Kids: []api.Expr{e}},
			{Kind: api.ExFilter, Op: api.OpMore, Num: 99, Kids: []api.Expr{e}},
		}[i%3]
	}
	return api.Query{Every: every, Expr: e}
}

// invalid returns queries that are not valid, each of which would need samples
// otherwise.
func invalid() []api.Query {
	without := query(5, 7)
	without.Expr.Metric = ""
	unsorted := query(5, 7, 9)
	unsorted.Expr.Names = []string{"b", "a"}
	deep := query(5, 7)
	for range api.MaxNest {
		deep.Expr = api.Expr{Kind: api.ExScale, Op: api.OpAdd, Kids: []api.Expr{deep.Expr}}
	}
	many := query(5, 7)
	for range 7 {
		many.Expr = api.Expr{Kind: api.ExJoin, Op: api.OpAdd, Kids: []api.Expr{many.Expr, many.Expr}}
	}
	own := query(5, 7)
	own.Expr.Kids = []api.Expr{leaf(7)}
	return []api.Query{
		{}, {Every: 5}, {Every: 5, Expr: api.Expr{Kind: api.ExScale, Op: api.OpAdd, Span: 7}},
		query(0, 7), query(-5, 7), query(1<<30+1, 1<<30), query(math.MinInt64, 7), query(math.MaxInt64, 7),
		query(5, 0), query(5, -7), query(5, 1<<30+1), query(5, math.MaxInt64), query(5, 7, 0), query(5, 7, 1<<30+1),
		without, unsorted, deep, many, own,
	}
}

// isNeeded reports whether a sample is needed, by looking at each window.
func isNeeded(every int64, spans []int64, mark, time int64) bool {
	for at := every; at <= min(time+slices.Max(spans), 1<<40); at += every {
		for _, span := range spans {
			if at > mark && at-span < time && time <= at {
				return true
			}
		}
	}
	return false
}

// spansOf returns lists of spans.
func spansOf() [][]int64 {
	return [][]int64{{1}, {2}, {3}, {5}, {7}, {12}, {40}, {1, 1}, {3, 8}, {8, 3}, {1, 2, 9, 4}, {6, 1, 1, 1, 1}}
}

// P9.2: In of all small times and spans, and of ones at the limits of int64.
func TestIn(t *testing.T) {
	limits := []int64{math.MinInt64, math.MinInt64 + 1, math.MaxInt64 - 1, math.MaxInt64, 1 << 40, 1<<40 - 1, 1<<40 + 1, 1 << 30, 1<<62 - 1, 1 << 62, -1 << 62}
	for n := int64(-13); n <= 13; n++ {
		limits = append(limits, n)
	}
	count := 0
	for _, span := range limits {
		for _, at := range limits {
			for _, time := range limits {
				begin := new(big.Int).Sub(big.NewInt(at), big.NewInt(span))
				want := span >= 1 && big.NewInt(time).Cmp(begin) > 0 && time <= at
				if want {
					count++
				}
				if got := grid.In(span, at, time); got != want {
					t.Fatalf("In of %d, %d and %d is %v", span, at, time, got)
				}
			}
		}
	}
	if count < 1000 {
		t.Errorf("only %d are in", count)
	}
}

// P9.2: Needed of all small marks and times, against each window.
func TestNeeded(t *testing.T) {
	counts := map[bool]int{}
	for every := int64(1); every <= 11; every++ {
		for _, spans := range spansOf() {
			q := query(every, spans...)
			for mark := int64(-2); mark <= 25; mark++ {
				for time := int64(1); time <= 50; time++ {
					want := isNeeded(every, spans, mark, time)
					counts[want]++
					if got := grid.Needed(q, mark, time); got != want {
						t.Fatalf("every %d with spans %v: Needed after %d at %d is %v", every, spans, mark, time, got)
					}
				}
			}
		}
	}
	if counts[true] < 10000 || counts[false] < 10000 {
		t.Errorf("only %v", counts)
	}
}

// P9.2: Needed at the end of the grid, and at the limits of spans, marks and
// times.
func TestNeededAtLimits(t *testing.T) {
	const end, most = 1 << 40, 1 << 30
	for _, c := range []struct {
		every, span, mark, time int64
		want                    bool
	}{
		{1, 1, end - 1, end, true},
		{1, 1, end - 1, end - 1, false},
		{1, 1, end, end, false},
		{1, 1, 0, end + 1, false},
		{1, most, 0, math.MaxInt64, false},
		{1, most, end, end, false},
		{1, most, end - 1, end - most + 1, true},
		{1, most, end - 1, end - most, false},
		{1, most, math.MaxInt64, end, false},
		{3, most, 0, end - 1, true},
		{3, most, 0, end, false}, // the grid ends at 2^40 - 1
		{3, most, end - 2, end - most, true},
		{3, most, end - 2, end - most - 1, false},
		{3, most, end - 1, end - 1, false},
		{most, most, 0, 1, true},
		{most, most, most - 1, 1, true},
		{most, most, most, 1, false},
		{most, most, most, most, false},
		{most, most, most, most + 1, true},
		{most, 1, 0, most, true},
		{most, 1, 0, most - 1, false},
		{most, 1, most, most, false},
		{most - 1, most, 0, 1, true},
		{most - 1, most, most - 1, most - 1, true},
		{most - 1, most, most - 1, most - 2, false},
		{most - 1, most, 0, end - 1024, true},
		{most - 1, most, 0, end - 1023, false}, // the grid ends at 2^40 - 2^10
		{5, 7, math.MinInt64, 1, true},
		{5, 7, -1, 1, true},
		{5, 3, math.MinInt64, 2, false},
		{5, 3, math.MinInt64, 3, true},
		{5, 7, 0, math.MinInt64, false},
		{5, 7, math.MinInt64, math.MinInt64, false},
		// Windows begin before the first time, also where no samples are.
		{5, 7, 0, -1, true},
		{5, 7, 0, -2, false},
		{5, 7, 0, 0, true},
		{5, 7, 5, 0, false},
	} {
		if got := grid.Needed(query(c.every, c.span), c.mark, c.time); got != c.want {
			t.Errorf("%+v is %v", c, got)
		}
	}
}

// P9.2: queries that are not valid need nothing, and change nothing of what is
// kept for others.
func TestInvalid(t *testing.T) {
	marks := []int64{math.MinInt64, -1, 0, 1, 5, 9, 100, 1 << 40, math.MaxInt64}
	for i, q := range invalid() {
		if ast.Check(q) == api.OK {
			t.Errorf("%d is valid", i)
		}
		for _, mark := range marks {
			for time := int64(-1); time <= 20; time++ {
				if grid.Needed(q, mark, time) {
					t.Errorf("%d needs %d after %d", i, time, mark)
				}
			}
			wantKeep(t, []api.Query{q}, mark, max(mark, 0))
			other := query(5, 3)
			want := grid.Keep([]api.Query{other}, mark)
			wantKeep(t, []api.Query{q, other}, mark, want)
			wantKeep(t, []api.Query{other, q}, mark, want)
		}
	}
	for _, mark := range marks {
		wantKeep(t, nil, mark, max(mark, 0))
		wantKeep(t, []api.Query{}, mark, max(mark, 0))
		wantKeep(t, invalid(), mark, max(mark, 0))
	}
}

// P9.2: no call panics, and each ends, also for an expression that is within
// itself.
func TestEndless(t *testing.T) {
	kids := make([]api.Expr, 1)
	kids[0] = api.Expr{Kind: api.ExScale, Op: api.OpAdd, Kids: kids}
	q := api.Query{Every: 5, Expr: kids[0]}
	// What is endless cannot be printed.
	if grid.Needed(q, 0, 1) || grid.Keep([]api.Query{q}, 4) != 4 {
		t.Error("it needs samples")
	}
	wantNext(t, q, 5, 10, 2)
}

// wantKeep checks Keep of queries.
func wantKeep(t *testing.T, l []api.Query, mark, want int64) {
	t.Helper()
	if got := grid.Keep(l, mark); got != want {
		t.Errorf("Keep after %d of %v is %d, not %d", mark, l, got, want)
	}
}

// P9.2: Keep of small queries, alone and together, against each time that is
// needed.
func TestKeep(t *testing.T) {
	for first := int64(1); first <= 11; first++ {
		for _, spans := range spansOf() {
			for second := int64(0); second <= 8; second += 4 {
				others := []int64{1 + first%4*second}
				l := []api.Query{query(first, spans...)}
				if second > 0 {
					l = append(l, query(second, others...))
				}
				for mark := int64(-2); mark <= 60; mark++ {
					want := int64(0)
					for want < mark && !isNeeded(first, spans, mark, want+1) &&
						(second == 0 || !isNeeded(second, others, mark, want+1)) {
						want++
					}
					wantKeep(t, l, mark, want)
					slices.Reverse(l)
					wantKeep(t, l, mark, want)
				}
			}
		}
	}
}

// P9.2: Keep at the end of the grid, at the limits of spans and marks, and of
// many queries.
func TestKeepAtLimits(t *testing.T) {
	const end, most = 1 << 40, 1 << 30
	for _, c := range []struct{ every, span, mark, want int64 }{
		{5, 7, 5, 3},
		{5, 7, 9, 3},
		{5, 7, 10, 8},
		{5, 7, 4, 0},
		{5, 7, math.MinInt64, 0},
		{1, 1, 0, 0},
		{1, 1, 8, 8},
		{1, 1, end, end},
		{1, most, end - 1, end - most},
		{1, most, end, end},
		{1, most, end + 1, end + 1},
		{1, most, math.MaxInt64, math.MaxInt64},
		{3, most, end - 2, end - most - 1},
		{3, most, end - 1, end - 1},
		{most, most, most - 1, 0},
		{most, most, most, most},
		{most, 1, most - 1, most - 1},
		{most, 1, most, most},
		{most, most, end - 1, end - most},
		{most - 1, most, most - 1, most - 2},
		{most, 7, 5, 5},
		{most, 7, most - 8, most - 8},
		{most, 7, most - 7, most - 7},
		{most, 7, most - 6, most - 7},
	} {
		wantKeep(t, []api.Query{query(c.every, c.span)}, c.mark, c.want)
	}
	var l []api.Query
	for i := range int64(100) {
		l = append(l, query(1000, 100+(i*37)%100))
	}
	wantKeep(t, l, 2950, 3000-199)
	wantKeep(t, append(l, query(most, 1), query(7, 1)), 2950, 3000-199)
	wantKeep(t, append(l, query(most, most), query(7, 1)), 2950, 0)
}

// P9.2: the watermark of times at their limits.
func TestMark(t *testing.T) {
	const end = 1 << 40
	for _, c := range []struct {
		late  int64
		times []int64
		want  int64
		err   api.Errno
	}{
		{3, []int64{10, 4}, 7, api.OK},
		{3, []int64{4, 10}, 7, api.OK},
		{3, []int64{10, 10, 9}, 7, api.OK},
		{0, []int64{10, 4}, 10, api.OK},
		{10, []int64{10, 4}, 0, api.OK},
		{9, []int64{4, 5, 10, 6}, 1, api.OK},
		{11, []int64{10, 4}, 0, api.OK},
		{0, nil, 0, api.OK},
		{0, []int64{}, 0, api.OK},
		{7, nil, 0, api.OK},
		{math.MaxInt64, nil, 0, api.OK},
		{math.MaxInt64, []int64{1, end}, 0, api.OK},
		{end + 1, []int64{end}, 0, api.OK},
		{end, []int64{end}, 0, api.OK},
		{end - 1, []int64{end}, 1, api.OK},
		{0, []int64{1}, 1, api.OK},
		{0, []int64{end}, end, api.OK},
		{1, []int64{1, end, 1}, end - 1, api.OK},
		{-1, []int64{10}, 0, api.ErrArg},
		{-1, nil, 0, api.ErrArg},
		{math.MinInt64, []int64{10}, 0, api.ErrArg},
		{3, []int64{0}, 0, api.ErrArg},
		{3, []int64{10, 0}, 0, api.ErrArg},
		{3, []int64{0, 10}, 0, api.ErrArg},
		{3, []int64{10, -1, 10}, 0, api.ErrArg},
		{3, []int64{10, math.MinInt64}, 0, api.ErrArg},
		{3, []int64{end + 1, 10}, 0, api.ErrArg},
		{3, []int64{10, math.MaxInt64}, 0, api.ErrArg},
	} {
		if got, e := grid.Mark(c.late, c.times...); got != c.want || e != c.err {
			t.Errorf("Mark of %d and %v is %d, %d", c.late, c.times, got, e)
		}
	}
}

// P9.3: a sample is needed if and only if some window that is still to be
// evaluated contains it.
func TestNeededTheorem(t *testing.T) {
	for every := int64(1); every <= 9; every += 2 {
		for _, spans := range spansOf() {
			q := query(every, spans...)
			for mark := int64(0); mark <= 20; mark++ {
				for time := int64(1); time <= 40; time++ {
					want := false
					for _, at := range grid.Between(q, mark, 100) {
						for _, w := range ast.Leaves(q.Expr) {
							want = want || grid.In(w.Span, at, time)
						}
					}
					if got := grid.Needed(q, mark, time); got != want {
						t.Fatalf("every %d with spans %v: Needed after %d at %d is %v", every, spans, mark, time, got)
					}
				}
			}
		}
	}
}

// P9.3: what is at or before Keep is not needed after any later mark, and what
// is behind it, up to the mark, begins with a time that is needed.
func TestKeepTheorem(t *testing.T) {
	l := []api.Query{query(5, 7), query(8, 1, 13), query(3, 2), query(0, 50)}
	for mark := int64(0); mark <= 60; mark++ {
		keep := grid.Keep(l, mark)
		for later := mark; later <= mark+40; later++ {
			if grid.Keep(l, later) < keep {
				t.Errorf("Keep after %d is less than after %d", later, mark)
			}
			for time := int64(1); time <= keep; time++ {
				if anyNeeds(l, later, time) {
					t.Fatalf("%d is needed after %d, but Keep after %d is %d", time, later, mark, keep)
				}
			}
		}
		if keep < mark && !anyNeeds(l, mark, keep+1) {
			t.Errorf("Keep after %d is only %d", mark, keep)
		}
	}
}

// anyNeeds reports whether one of the queries needs a sample.
func anyNeeds(l []api.Query, mark, time int64) bool {
	return slices.ContainsFunc(l, func(q api.Query) bool { return grid.Needed(q, mark, time) })
}

// P9.3: watermarks do not decrease as times are added, and are those of the
// greatest time.
func TestMarkTheorem(t *testing.T) {
	for late := int64(0); late <= 50; late += 5 {
		var times []int64
		last, most, seed := int64(0), int64(0), uint64(late)
		for i := range int64(200) {
			seed = seed*6364136223846793005 + 1442695040888963407
			at := 1 + int64(seed>>40)%(i+9)
			times, most = append(times, at), max(most, at)
			got, e := grid.Mark(late, times...)
			if e != api.OK || got < last || got != max(0, most-late) {
				t.Fatalf("Mark of %d and %v is %d, %d, after %d", late, times, got, e, last)
			}
			last = got
		}
	}
}

// Rule 3 with P9.2: no argument is changed, its spare capacity included.
func TestArgumentsStay(t *testing.T) {
	l := append(make([]api.Query, 0, 9), query(8, 1, 13), query(5, 7), query(3, 2))
	times := append(make([]int64, 0, 9), 4, 10, 2)
	wantList, wantTimes := slices.Clone(l[:9]), slices.Clone(times[:9])
	wantList[0] = query(8, 1, 13)
	grid.Keep(l, 20)
	grid.Needed(l[0], 20, 15)
	if m, e := grid.Mark(3, times...); m != 7 || e != api.OK {
		t.Errorf("Mark is %d, %d", m, e)
	}
	if !reflect.DeepEqual(l[:9], wantList) || !slices.Equal(times[:9], wantTimes) {
		t.Errorf("%v, %v", l[:9], times[:9])
	}
}
