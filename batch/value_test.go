package batch_test

import (
	"math"
	"slices"
	"testing"

	"waterwheel/api"
	"waterwheel/batch"
)

// points returns points with these values. Their times are no order: Window
// does not look at them.
func points(values ...api.Value) (p []api.Point) {
	for i, v := range values {
		p = append(p, api.Point{Time: int64(-i * i % 7), Value: v})
	}
	return p
}

// numbers returns points with these numbers.
func numbers(l ...int64) []api.Point {
	var values []api.Value
	for _, n := range l {
		values = append(values, api.Value{N: n})
	}
	return points(values...)
}

// wantWindow checks Window.
func wantWindow(t *testing.T, fn int, p []api.Point, want api.Value, there bool) {
	t.Helper()
	if got, is := batch.Window(fn, p); got != want || is != there {
		t.Errorf("Window of %d and %v is %v, %v, not %v, %v", fn, p, got, is, want, there)
	}
}

// P10.1: Window of each function.
func TestWindow(t *testing.T) {
	for _, c := range []struct {
		l                                     []int64
		sum, count, least, most, last, growth int64
	}{
		{[]int64{7}, 7, 1, 7, 7, 7, 0},
		{[]int64{-7}, -7, 1, -7, -7, -7, 0},
		{[]int64{0}, 0, 1, 0, 0, 0, 0},
		{[]int64{1, 4}, 5, 2, 1, 4, 4, 3},
		{[]int64{4, 1}, 5, 2, 1, 4, 1, 1},
		{[]int64{4, 4}, 8, 2, 4, 4, 4, 0},
		{[]int64{5, 8, 2, 2, 9}, 26, 5, 2, 9, 9, 3 + 2 + 7},
		{[]int64{-3, -5, -1}, -9, 3, -5, -1, -1, -5 + 4},
		{[]int64{5, 0, 0, 5}, 10, 4, 0, 5, 5, 5},
		{[]int64{math.MinInt64}, math.MinInt64, 1, math.MinInt64, math.MinInt64, math.MinInt64, 0},
		{[]int64{math.MaxInt64, math.MinInt64}, -1, 2, math.MinInt64, math.MaxInt64, math.MinInt64, math.MinInt64},
		{[]int64{9, math.MinInt64 + 1, -1}, math.MinInt64 + 9, 3, math.MinInt64 + 1, 9, -1, -1},
		{[]int64{0, math.MaxInt64}, math.MaxInt64, 2, 0, math.MaxInt64, math.MaxInt64, math.MaxInt64},
	} {
		p := numbers(c.l...)
		for fn, want := range map[int]int64{
			api.FnSum: c.sum, api.FnCount: c.count, api.FnMin: c.least, api.FnMax: c.most, api.FnLast: c.last, api.FnIncrease: c.growth,
		} {
			wantWindow(t, fn, p, api.Value{N: want}, true)
		}
	}
}

// P10.1: sums are exact, also if something in between is out of range.
func TestWindowOver(t *testing.T) {
	const least, most = math.MinInt64, math.MaxInt64
	none := api.Value{Over: true}
	for _, c := range []struct {
		fn   int
		l    []int64
		want api.Value
	}{
		{api.FnSum, []int64{most, 1}, none},
		{api.FnSum, []int64{least, -1}, none},
		{api.FnSum, []int64{most, 1, -1}, api.Value{N: most}},
		{api.FnSum, []int64{least, -1, 1}, api.Value{N: least}},
		{api.FnSum, []int64{most, most, least, least}, api.Value{N: -2}},
		{api.FnSum, []int64{least, least, least, most, most, most}, api.Value{N: -3}},
		{api.FnSum, []int64{least, least}, none},
		{api.FnIncrease, []int64{least, most}, none},
		{api.FnIncrease, []int64{least, -1}, api.Value{N: most}},
		{api.FnIncrease, []int64{least, 0}, none},
		{api.FnIncrease, []int64{least, most, least}, api.Value{N: most}},
		{api.FnIncrease, []int64{least, most, least, most}, none},
		{api.FnIncrease, []int64{most, least}, api.Value{N: least}},
		{api.FnIncrease, []int64{least + 1, least, 0, -1}, api.Value{N: -1}},
		{api.FnIncrease, []int64{0, -1, least}, none},
		{api.FnIncrease, []int64{0, most, 0, 1}, none},
		{api.FnIncrease, []int64{0, most, -1, 0}, api.Value{N: most}},
	} {
		wantWindow(t, c.fn, numbers(c.l...), c.want, true)
	}
}

// valueLists returns all lists of 1 to n of some values.
func valueLists(n int, from ...api.Value) (all [][]api.Value) {
	short := [][]api.Value{nil}
	for range n {
		var longer [][]api.Value
		for _, l := range short {
			for _, v := range from {
				longer = append(longer, append(slices.Clone(l), v))
			}
		}
		all, short = append(all, longer...), longer
	}
	return all
}

// P10.1: Window of all short lists of some numbers and of over, in each order,
// against exact integers.
func TestWindowLists(t *testing.T) {
	small := []api.Value{{}, {N: 1}, {N: 5}, {N: -2}, {Over: true}}
	great := []api.Value{{N: math.MinInt64}, {N: math.MaxInt64}, {N: -1}, {N: 1 << 62}, {Over: true}}
	for _, l := range append(valueLists(5, small...), valueLists(5, great...)...) {
		for fn := api.FnSum; fn <= api.FnIncrease; fn++ {
			if got, is := batch.Window(fn, points(l...)); !is || got != refWindow(fn, l) {
				t.Fatalf("Window of %d and %v is %v, %v, not %v", fn, l, got, is, refWindow(fn, l))
			}
		}
	}
}

// P10.1: Window of no points, of no function, and of a value that is not valid
// at each place.
func TestWindowNone(t *testing.T) {
	for fn := -1; fn <= 8; fn++ {
		wantWindow(t, fn, nil, api.Value{}, false)
		wantWindow(t, fn, []api.Point{}, api.Value{}, false)
		for at := range 4 {
			for _, n := range []int64{1, -1, math.MinInt64, math.MaxInt64} {
				p := numbers(7, 8, 9, 3)
				p[at].Value = api.Value{N: n, Over: true}
				wantWindow(t, fn, p, api.Value{}, false)
				wantWindow(t, fn, p[at:], api.Value{}, false)
				wantWindow(t, fn, p[:at+1], api.Value{}, false)
			}
		}
	}
	for _, fn := range []int{0, -1, 7, 8, 100, math.MinInt, math.MaxInt} {
		wantWindow(t, fn, numbers(7, 8), api.Value{}, false)
		wantWindow(t, fn, points(api.Value{Over: true}), api.Value{}, false)
	}
}

// P10.1: Window of many points.
func TestWindowMany(t *testing.T) {
	const n = 100000
	l := slices.Repeat([]int64{math.MaxInt64}, n)
	for i := range int64(n) {
		l = append(l, math.MinInt64+i%2)
	}
	wantWindow(t, api.FnSum, numbers(l...), api.Value{N: -n / 2}, true)
	wantWindow(t, api.FnCount, numbers(l...), api.Value{N: 2 * n}, true)
	wantWindow(t, api.FnMin, numbers(l...), api.Value{N: math.MinInt64}, true)
	wantWindow(t, api.FnMax, numbers(l...), api.Value{N: math.MaxInt64}, true)
	wantWindow(t, api.FnLast, numbers(l...), api.Value{N: math.MinInt64 + 1}, true)
	wantWindow(t, api.FnIncrease, numbers(l...), api.Value{Over: true}, true)
	wantWindow(t, api.FnIncrease, numbers(l[:n+1]...), api.Value{N: math.MinInt64}, true)
}
