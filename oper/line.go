package oper

import (
	"cmp"
	"slices"
	"strings"

	"waterwheel/api"
	"waterwheel/label"
	"waterwheel/number"
	"waterwheel/sample"
)

// A line is a series with its points, in ascending order of their times.
type line struct {
	key    string
	labels []api.Label
	points []api.Point
}

// after returns the place of the first point after a time.
func (x *line) after(time int64) int {
	at, _ := slices.BinarySearchFunc(x.points, time+1, func(p api.Point, time int64) int {
		return cmp.Compare(p.Time, time)
	})
	return at
}

// add adds a point that is after the last one.
func (x *line) add(time, n int64) {
	x.points = append(x.points, api.Point{Time: time, Value: number.Of(n)})
}

// within returns the points in the window of a span at a time. They are still
// those of the line.
func (x *line) within(span, time int64) []api.Point {
	return x.points[x.after(time-span):x.after(time)]
}

// compare compares the labels of the line with others.
func (x *line) compare(l []api.Label) int {
	return label.Compare(x.labels, l)
}

// Lines are those of different series with the same metric, in ascending order of
// their labels. Each has points.
type lines struct {
	list []*line
}

// find returns the place of the line with these labels, or where it would be.
func (l *lines) find(labels []api.Label) (int, bool) {
	return slices.BinarySearchFunc(l.list, labels, (*line).compare)
}

// last returns the time of the last point of the series with these labels, or 0
// if it has none.
func (l *lines) last(labels []api.Label) int64 {
	at, is := l.find(labels)
	if !is {
		return 0
	}
	points := l.list[at].points
	return points[len(points)-1].Time
}

// of returns the line of a series. If there is none, it is made, and needs a point.
func (l *lines) of(s api.Series) *line {
	at, is := l.find(s.Labels)
	if !is {
		l.list = slices.Insert(l.list, at, &line{key: sample.Key(s), labels: slices.Clone(s.Labels)})
	}
	return l.list[at]
}

// trim removes all points up to a time.
func (l *lines) trim(floor int64) {
	for _, x := range l.list {
		x.points = slices.Delete(x.points, 0, x.after(floor))
	}
	l.list = slices.DeleteFunc(l.list, func(x *line) bool { return len(x.points) == 0 })
}

// byKey returns the lines in ascending order of their keys, which is another one
// than that of their labels.
func (l *lines) byKey() []*line {
	return slices.SortedFunc(slices.Values(l.list), func(x, y *line) int { return strings.Compare(x.key, y.key) })
}

// samples returns all points as samples, by the keys of their series.
func (l *lines) samples() []api.Sample {
	var all []api.Sample
	for _, x := range l.byKey() {
		for _, p := range x.points {
			// The key is read for each sample, so that none shares its labels.
			s, _ := sample.Parse(x.key)
			all = append(all, api.Sample{Series: s, Time: p.Time, N: p.N})
		}
	}
	return all
}

// write writes all series with their points.
func (l *lines) write(w *writer) {
	w.size(len(l.list))
	for _, x := range l.byKey() {
		w.text(x.key)
		w.size(len(x.points))
		for _, p := range x.points {
			w.whole(p.Time)
			w.signed(p.N)
		}
	}
}
