package slide

import (
	"cmp"

	"waterwheel/api"
	"waterwheel/number"
)

// A function has what it needs to know of points to return its value for them
// at once. It does not keep the lists that it is given.
type function interface {
	// enter learns of the last point of l, which was added to the others.
	enter(l []api.Point)
	// leave learns of the first point of l, which is removed from the others.
	leave(l []api.Point)
	// value returns the value for l, which has one point at least.
	value(l []api.Point) api.Value
}

// made returns a function for no points, or nil if there is no such function.
func made(fn int) function {
	switch fn {
	case api.FnSum:
		return &sum{}
	case api.FnCount:
		return count{}
	case api.FnMin:
		return &extreme{order: cmp.Compare[int64]}
	case api.FnMax:
		return &extreme{order: func(a, b int64) int { return cmp.Compare(b, a) }}
	case api.FnLast:
		return last{}
	case api.FnIncrease:
		return &increase{}
	}
	return nil
}

// A sum is FnSum.
type sum struct {
	total api.Great
}

func (f *sum) enter(l []api.Point) {
	f.total = number.Put(f.total, end(l).Value)
}

func (f *sum) leave(l []api.Point) {
	f.total = number.Take(f.total, l[0].Value)
}

func (f *sum) value([]api.Point) api.Value {
	return number.Value(f.total)
}

// A count is FnCount: the list of points knows it.
type count struct{}

func (count) enter([]api.Point) {}

func (count) leave([]api.Point) {}

func (count) value(l []api.Point) api.Value {
	return number.Of(int64(len(l)))
}

// An extreme is FnMin or FnMax: the first number in an order, which is that of
// the numbers or the opposite one.
type extreme struct {
	order func(a, b int64) int

	// list has those points which are before all later ones in the order: no
	// other point can become the first one, because a later point is in the
	// window for longer.
	list deque
}

func (f *extreme) enter(l []api.Point) {
	p := end(l)
	for k := f.list.all(); len(k) > 0 && f.order(end(k).N, p.N) >= 0; k = f.list.all() {
		f.list.pop()
	}
	f.list.push(p)
}

func (f *extreme) leave(l []api.Point) {
	if f.list.all()[0].Time == l[0].Time {
		f.list.shift()
	}
}

func (f *extreme) value([]api.Point) api.Value {
	return f.list.all()[0].Value
}

// A last is FnLast: the list of points knows it.
type last struct{}

func (last) enter([]api.Point) {}

func (last) leave([]api.Point) {}

func (last) value(l []api.Point) api.Value {
	return end(l).Value
}

// An increase is FnIncrease: the sum of the steps from each point to the next.
type increase struct {
	total api.Great
}

func (f *increase) enter(l []api.Point) {
	if n := len(l); n > 1 {
		f.total = step(f.total, l[n-2], l[n-1], number.Put, number.Take)
	}
}

func (f *increase) leave(l []api.Point) {
	if len(l) > 1 {
		f.total = step(f.total, l[0], l[1], number.Take, number.Put)
	}
}

func (f *increase) value([]api.Point) api.Value {
	return number.Value(f.total)
}

// step returns g with the step from p to q, which more adds and less subtracts.
// A number that is less than the one before it has begun again at 0.
func step(g api.Great, p, q api.Point, more, less func(api.Great, api.Value) api.Great) api.Great {
	g = more(g, q.Value)
	if q.N >= p.N {
		g = less(g, p.Value)
	}
	return g
}

// end returns the last one of some points.
func end(l []api.Point) api.Point {
	return l[len(l)-1]
}
