package grid_test

import (
	"math"
	"slices"
	"testing"

	"waterwheel/api"
	"waterwheel/grid"
)

// every returns a query that has a grid and no valid expression, which the
// grid does not need.
func every(n int64) api.Query {
	return api.Query{Every: n}
}

// scan returns the times of a grid above from, up to to, found by asking each
// time.
func scan(every, from, to int64) []int64 {
	var l []int64
	for t := max(from+1, 1); t <= min(to, 1<<40); t++ {
		if t%every == 0 {
			l = append(l, t)
		}
	}
	return l
}

// wantNext checks Next and First of a mark.
func wantNext(t *testing.T, q api.Query, mark, next, first int64) {
	t.Helper()
	if got, is := grid.Next(q, mark); got != next || is != (next != 0) {
		t.Errorf("Next of %d with Every %d is %d, %v, not %d", mark, q.Every, got, is, next)
	}
	if got := grid.First(q, mark); got != first {
		t.Errorf("First of %d with Every %d is %d, not %d", mark, q.Every, got, first)
	}
}

// wantLast checks Last of a mark.
func wantLast(t *testing.T, q api.Query, mark, last int64) {
	t.Helper()
	if got := grid.Last(q, mark); got != last {
		t.Errorf("Last of %d with Every %d is %d, not %d", mark, q.Every, got, last)
	}
}

// wantBetween checks Between of two times.
func wantBetween(t *testing.T, q api.Query, from, to int64, want []int64) {
	t.Helper()
	if got := grid.Between(q, from, to); !slices.Equal(got, want) {
		t.Errorf("Between %d and %d with Every %d is %v, not %v", from, to, q.Every, got, want)
	}
}

// P9.1, P9.2: the chapter's examples.
func TestExamples(t *testing.T) {
	q := query(5, 7)
	wantNext(t, q, 5, 10, 2)
	wantLast(t, q, 9, 5)
	wantBetween(t, q, 0, 12, []int64{5, 10})
	if grid.Needed(q, 5, 3) || !grid.Needed(q, 5, 4) {
		t.Error("Needed")
	}
	if m, e := grid.Mark(3, 10, 4); m != 7 || e != api.OK {
		t.Errorf("Mark is %d, %d", m, e)
	}
}

// P9.1: all small grids, at each mark, against a scan of all times.
func TestSmallGrids(t *testing.T) {
	for n := int64(1); n <= 14; n++ {
		all := scan(n, 0, 100)
		for mark := int64(-3); mark <= 70; mark++ {
			passed := scan(n, 0, mark)
			wantNext(t, every(n), mark, all[len(passed)], int64(len(passed))+1)
			if len(passed) == 0 {
				passed = []int64{0}
			}
			wantLast(t, every(n), mark, passed[len(passed)-1])
			for to := int64(-3); to <= 70; to++ {
				wantBetween(t, every(n), mark, to, scan(n, mark, to))
			}
		}
	}
}

// P9.1: grids end at MaxTime.
func TestEnd(t *testing.T) {
	const end = 1 << 40
	for n := int64(1); n <= 40; n++ {
		for mark := int64(end - 60); mark <= end+60; mark++ {
			next, first := int64(0), int64(0)
			if left := scan(n, mark, end); len(left) > 0 {
				next, first = left[0], left[0]/n
			}
			wantNext(t, every(n), mark, next, first)
			wantLast(t, every(n), mark, slices.Max(scan(n, mark-121, mark)))
			for _, to := range []int64{end - 30, end - 1, end, end + 1, end + 50, math.MaxInt64} {
				wantBetween(t, every(n), mark, to, scan(n, mark, to))
			}
		}
	}
}

// P9.1: each Every from 1 to MaxSpan has a grid.
func TestGreatEvery(t *testing.T) {
	const most, end = 1 << 30, 1 << 40
	for _, c := range []struct{ every, mark, next, first, last int64 }{
		{most, 0, most, 1, 0},
		{most, most - 1, most, 1, 0},
		{most, most, 2 * most, 2, most},
		{most, end - most - 1, end - most, 1023, end - 2*most},
		{most, end - most, end, 1024, end - most},
		{most, end - 1, end, 1024, end - most},
		{most, end, 0, 0, end},
		{most - 1, 0, most - 1, 1, 0},
		{most - 1, most - 1, 2*most - 2, 2, most - 1},
		{most - 1, 1023 * most, 1024 * (most - 1), 1024, 1023 * (most - 1)},
		{most - 1, end - 1024, 0, 0, end - 1024},
		{most - 1, end - 1025, end - 1024, 1024, end - most - 1023},
		{most - 1, end, 0, 0, end - 1024},
		{1, end - 1, end, end, end - 1},
		{1, end - 2, end - 1, end - 1, end - 2},
		{1, 0, 1, 1, 0},
		{2, end - 1, end, end / 2, end - 2},
		{3, end - 1, 0, 0, end - 1},
		{3, end - 2, end - 1, (end - 1) / 3, end - 4},
	} {
		wantNext(t, every(c.every), c.mark, c.next, c.first)
		wantLast(t, every(c.every), c.mark, c.last)
	}
	wantBetween(t, every(most), most, 3*most+5, []int64{2 * most, 3 * most})
	wantBetween(t, every(most), 1022*most, math.MaxInt64, []int64{1023 * most, 1024 * most})
	wantBetween(t, every(most-1), 1022*most, math.MaxInt64, []int64{1023 * (most - 1), 1024 * (most - 1)})
	if l := grid.Between(every(most), 0, end); len(l) != 1024 || l[1023] != end {
		t.Errorf("%d times", len(l))
	}
}

// P9.1: marks of any int64; one below 0 counts as 0.
func TestExtremeMarks(t *testing.T) {
	const end = 1 << 40
	for _, n := range []int64{1, 5, 1<<30 - 1, 1 << 30} {
		for _, below := range []int64{-1, -n, -n - 1, -end, math.MinInt64, math.MinInt64 + 1} {
			wantNext(t, every(n), below, n, 1)
			wantLast(t, every(n), below, 0)
			wantBetween(t, every(n), below, 2*n, []int64{n, 2 * n})
			wantBetween(t, every(n), below, n-1, nil)
			wantBetween(t, every(n), 0, below, nil)
			wantBetween(t, every(n), below, below, nil)
		}
		for _, above := range []int64{end, end + 1, end + n, math.MaxInt64 - 1, math.MaxInt64} {
			wantNext(t, every(n), above, 0, 0)
			wantLast(t, every(n), above, end/n*n)
			wantBetween(t, every(n), above, math.MaxInt64, nil)
			wantBetween(t, every(n), end/n*n-2*n, above, []int64{end/n*n - n, end / n * n})
		}
	}
}

// P9.1: without an Every from 1 to MaxSpan there is no grid.
func TestNoGrid(t *testing.T) {
	for _, n := range []int64{0, -1, -5, math.MinInt64, 1<<30 + 1, 1 << 31, 1 << 40, math.MaxInt64} {
		q := query(n, 7)
		for _, mark := range []int64{math.MinInt64, -1, 0, 1, 5, 1 << 31, 1<<40 - 1, 1 << 40, math.MaxInt64} {
			wantNext(t, q, mark, 0, 0)
			wantLast(t, q, mark, 0)
			wantBetween(t, q, mark, math.MaxInt64, nil)
			wantBetween(t, q, 0, mark, nil)
		}
	}
}

// P9.1: the times of a grid do not depend on the expression.
func TestAnyExpression(t *testing.T) {
	for _, q := range invalid() {
		q.Every = 5
		wantNext(t, q, 5, 10, 2)
		wantLast(t, q, 9, 5)
		wantBetween(t, q, 0, 12, []int64{5, 10})
	}
}

// P9.1: Between returns the first 4,096 times.
func TestMostTimes(t *testing.T) {
	for _, n := range []int64{1, 3, 1 << 20} {
		for _, from := range []int64{-1, 0, 1, 2 * n, 1000 * n} {
			first := max(from, 0)/n*n + n
			for _, count := range []int64{4095, 4096, 4097, 8192} {
				l := grid.Between(every(n), from, first+(count-1)*n)
				wantSteps(t, l, first, n, min(count, 4096))
			}
			wantSteps(t, grid.Between(every(n), from, math.MaxInt64), first, n, 4096)
		}
	}
	wantSteps(t, grid.Between(every(1), 1<<40-4096, 1<<40), 1<<40-4095, 1, 4096)
	wantSteps(t, grid.Between(every(1), 1<<40-4095, 1<<40), 1<<40-4094, 1, 4095)
	wantSteps(t, grid.Between(every(1), 1<<40-4097, 1<<40), 1<<40-4096, 1, 4096)
}

// wantSteps checks that l has count times, the first one and the others each by
// a step after the one before.
func wantSteps(t *testing.T, l []int64, first, step, count int64) {
	t.Helper()
	if int64(len(l)) != count {
		t.Errorf("%d times, not %d", len(l), count)
	}
	for i, at := range l {
		if at != first+int64(i)*step {
			t.Errorf("time %d is %d", i, at)
			return
		}
	}
}

// Rule 3 with P9.1: what Between returns is new memory.
func TestNewMemory(t *testing.T) {
	for range 2 {
		l := grid.Between(every(5), 0, 20)
		if !slices.Equal(l, []int64{5, 10, 15, 20}) {
			t.Errorf("%v", l)
		}
		clear(l[:cap(l)])
	}
}
