package batch_test

import (
	"math"
	"slices"
	"strconv"
	"strings"
	"testing"

	"waterwheel/api"
	"waterwheel/batch"
)

// wantStore checks Store, and that Eval and All return its error, beside which
// there is nothing else.
func wantStore(t *testing.T, l []api.Sample, want api.Errno) {
	t.Helper()
	if e := batch.Store(l); e != want {
		t.Errorf("Store of %v: error %d, not %d", l, e, want)
	}
	w := api.Expr{Kind: api.ExWindow, Func: api.FnCount, Metric: "cpu", Span: 10}
	if v, e := batch.Eval(w, l, 5); e != want || want != api.OK && len(v) != 0 {
		t.Errorf("Eval of %v: error %d, not %d, and %v", l, e, want, v)
	}
	if v, e := batch.All(api.Query{Every: 1, Expr: w}, l, 0, 9); e != want || want != api.OK && len(v) != 0 {
		t.Errorf("All of %v: error %d, not %d, and %v", l, e, want, v)
	}
}

// P10.1: Store of samples that may be together.
func TestStore(t *testing.T) {
	name, text := strings.Repeat("a", 24), strings.Repeat("\x00", 64)
	for _, l := range [][]api.Sample{
		nil,
		{},
		{of("cpu", 1, 7)},
		{of("cpu", 1<<40, math.MinInt64)},
		{of(name, 1, 7, name, text)},
		{of("cpu", 3, 7), of("cpu", 2, 7), of("cpu", 4, 7)},
		{of("cpu", 3, 7), of("mem", 3, 7)},
		{of("cpu", 3, 7), of("cpu", 3, 7, "a", "x")},
		{of("cpu", 3, 7, "a", "x"), of("cpu", 3, 7, "a", "y")},
		{of("cpu", 3, 7, "a", "x"), of("cpu", 3, 7, "b", "x")},
		{of("cpu", 3, 7, "a", "x"), of("cpu", 3, 7, "a", "x", "b", "x"), of("cpu", 3, 7, "b", "x")},
		{of("a", 3, 7, "b", "c"), of("ab", 3, 7, "b", "c"), of("a", 3, 7, "bb", "c"), of("a", 3, 7, "b", "cc")},
		{of("a", 3, 7, "b", "\x01c\x01d"), of("a", 3, 7, "b", "\x01", "c", "\x01")},
	} {
		wantStore(t, l, api.OK)
	}
}

// wrongs has samples that are not valid, and their errors.
func wrongs() map[api.Errno][]api.Sample {
	long := api.Sample{Series: api.Series{Metric: "cpu", Labels: make([]api.Label, 9)}, Time: 3}
	return map[api.Errno][]api.Sample{
		api.ErrArg: {
			{}, of("", 3, 7), of("CPU", 3, 7), of(strings.Repeat("a", 25), 3, 7),
			of("cpu", 0, 7), of("cpu", -1, 7), of("cpu", 1<<40+1, 7), of("cpu", math.MinInt64, 7), of("cpu", math.MaxInt64, 7),
			of("cpu", 3, 7, "a", ""), of("cpu", 3, 7, "", "x"), of("cpu", 3, 7, "A", "x"), of("cpu", 3, 7, "b", "x", "a", "x"),
			of("cpu", 3, 7, "a", "x", "a", "x"), of("cpu", 3, 7, "a", strings.Repeat("x", 65)),
		},
		api.ErrLong: {long},
	}
}

// P10.1: Store returns the first error, at whatever place it is, also if two
// samples are of the same series and at the same time.
func TestStoreErrors(t *testing.T) {
	twice := []api.Sample{of("cpu", 3, 7), of("mem", 3, 7), of("cpu", 3, 8)}
	for want, l := range wrongs() {
		for _, x := range l {
			for at := range 4 {
				wantStore(t, slices.Insert(slices.Clone(twice), at, x), want)
			}
			wantStore(t, []api.Sample{x}, want)
			wantStore(t, []api.Sample{x, x}, want)
			wantStore(t, append([]api.Sample{x}, wrongs()[api.ErrArg]...), want)
			wantStore(t, append([]api.Sample{x}, wrongs()[api.ErrLong]...), want)
		}
	}
}

// P10.1: Store of two samples of the same series and at the same time, at all
// places.
func TestStoreTwice(t *testing.T) {
	var l []api.Sample
	for i := range int64(6) {
		l = append(l, of("cpu", 10-i, i, "a", "x"), of("cpu", 4+i, i, "a", "y"))
	}
	wantStore(t, l, api.OK)
	for i := range l {
		for j := range l {
			if i == j {
				continue
			}
			other := slices.Clone(l)
			other[j].Series, other[j].Time = other[i].Series, other[i].Time
			wantStore(t, other, api.ErrThere)
			other[j].Labels = list("b", "x")
			wantStore(t, other, api.OK)
			other[j].Series, other[j].Metric = other[i].Series, "mem"
			wantStore(t, other, api.OK)
			other[j] = other[i]
			wantStore(t, other, api.ErrThere)
		}
	}
}

// P10.1: Store of many samples.
func TestStoreMany(t *testing.T) {
	var l []api.Sample
	for i := range int64(50000) {
		l = append(l, of("cpu", 1+i*7919%100, i, "a", strconv.FormatInt(i/100, 10)))
	}
	if e := batch.Store(l); e != api.OK {
		t.Error(e)
	}
	if e := batch.Store(append(l, l[31234])); e != api.ErrThere {
		t.Error(e)
	}
}
