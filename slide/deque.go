package slide

import "waterwheel/api"

// A deque has points that are added at its end, and removed at either end.
type deque struct {
	list  []api.Point
	index int // where the first point is in the list: those before it are gone
}

// all returns the points. They are still those of the deque.
func (d *deque) all() []api.Point {
	return d.list[d.index:]
}

// push adds the last point.
func (d *deque) push(p api.Point) {
	d.list = append(d.list, p)
}

// pop removes the last point. There must be one.
func (d *deque) pop() {
	d.list = d.list[:len(d.list)-1]
}

// shift removes the first point. There must be one.
func (d *deque) shift() {
	d.index++
	// Once more points are gone than are left, these move to a new list: what is
	// gone takes little room, and what is moved is less than what was removed.
	if rest := d.all(); d.index > len(rest) {
		d.list, d.index = append([]api.Point(nil), rest...), 0
	}
}
