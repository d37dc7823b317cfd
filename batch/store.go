package batch

import (
	"cmp"
	"maps"
	"slices"
	"sort"
	"strings"

	"waterwheel/api"
	"waterwheel/label"
	"waterwheel/sample"
)

// A line is a series with its points in the order of their times.
type line struct {
	api.Series
	points []api.Point
}

// A store has the lines of its samples, in the order of their metrics, then of
// their labels.
type store []*line

// Store returns the first error of sample.Check, and ErrThere if two samples
// are of the same series and at the same time.
func Store(l []api.Sample) api.Errno {
	_, e := read(l)
	return e
}

// read returns the store of samples, or the error of Store.
func read(l []api.Sample) (store, api.Errno) {
	for _, x := range l {
		if e := sample.Check(x); e != api.OK {
			return nil, e
		}
	}
	s := collect(l)
	for _, x := range s {
		if x.twice() {
			return nil, api.ErrThere
		}
	}
	return s, api.OK
}

// collect returns the lines of valid samples.
func collect(l []api.Sample) store {
	lines := map[string]*line{}
	for _, x := range l {
		key := sample.Key(x.Series)
		if lines[key] == nil {
			lines[key] = &line{Series: x.Series}
		}
		lines[key].points = append(lines[key].points, api.Point{Time: x.Time, Value: api.Value{N: x.N}})
	}
	s := slices.SortedFunc(maps.Values(lines), (*line).compare)
	for _, x := range s {
		slices.SortFunc(x.points, byTime)
	}
	return s
}

// window returns the result of a window at a time.
func (s store) window(e api.Expr, at int64) (v []api.Result) {
	for _, x := range s {
		if x.Metric != e.Metric {
			continue
		}
		value, is := Window(e.Func, x.within(e.Span, at))
		if is && len(v) < api.MaxVector && label.Takes(e.Match, x.Labels) {
			v = append(v, result(x.Labels, value))
		}
	}
	return v
}

// compare compares x and y by their metrics, then by their labels.
func (x *line) compare(y *line) int {
	return cmp.Or(strings.Compare(x.Metric, y.Metric), label.Compare(x.Labels, y.Labels))
}

// twice reports whether two points of x have the same time.
func (x *line) twice() bool {
	for i := 1; i < len(x.points); i++ {
		if x.points[i-1].Time == x.points[i].Time {
			return true
		}
	}
	return false
}

// within returns the points of x in the window of a span at a time.
func (x *line) within(span, at int64) []api.Point {
	return x.points[x.after(at-span):x.after(at)]
}

// after returns the place of the first point of x after a time.
func (x *line) after(time int64) int {
	return sort.Search(len(x.points), func(i int) bool { return x.points[i].Time > time })
}

// byTime compares points by their times.
func byTime(a, b api.Point) int {
	return cmp.Compare(a.Time, b.Time)
}
