package mark

import (
	"cmp"
	"container/heap"
	"iter"

	"waterwheel/api"
)

// A place is where the samples of a series are read: it has the number of the
// series, and the points that are left, of which there are some.
type place struct {
	id     int
	points []api.Point
}

// places is a heap: the sample that comes next is that of the first place.
type places []place

// Len returns the number of places.
func (p places) Len() int {
	return len(p)
}

// Less reports whether the next sample of place a is before that of place b: the
// time decides, then the number of the series.
func (p places) Less(a, b int) bool {
	return cmp.Or(
		cmp.Compare(p[a].points[0].Time, p[b].points[0].Time),
		cmp.Compare(p[a].id, p[b].id),
	) < 0
}

// Swap exchanges two places.
func (p places) Swap(a, b int) {
	p[a], p[b] = p[b], p[a]
}

// Push adds a place at the end.
func (p *places) Push(x any) {
	*p = append(*p, x.(place))
}

// Pop removes the place at the end.
func (p *places) Pop() any {
	end := len(*p) - 1
	x := (*p)[end]
	*p = (*p)[:end]
	return x
}

// next removes the next sample of the first place, and returns it, with the number
// of its series.
func (p *places) next() (int, api.Point) {
	first := &(*p)[0]
	id, x := first.id, first.points[0]
	if len(first.points) == 1 {
		heap.Pop(p)
		return id, x
	}
	first.points = first.points[1:]
	heap.Fix(p, 0)
	return id, x
}

// places returns where the samples after from and not after to are.
func (i *Intake) places(from, to int64) *places {
	p := &places{}
	for n, b := range i.buffers {
		if points := b.Range(from, to); len(points) > 0 {
			heap.Push(p, place{id: n + 1, points: points})
		}
	}
	return p
}

// between yields the samples after from and not after to, in their order.
func (i *Intake) between(from, to int64) iter.Seq[api.Sample] {
	return func(yield func(api.Sample) bool) {
		p := i.places(from, to)
		for p.Len() > 0 {
			id, x := p.next()
			s, _ := i.table.Series(id)
			if !yield(api.Sample{Series: s, Time: x.Time, N: x.N}) {
				return
			}
		}
	}
}
