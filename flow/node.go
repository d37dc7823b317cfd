package flow

import (
	"waterwheel/api"
	"waterwheel/grid"
	"waterwheel/oper"
	"waterwheel/queue"
)

// A step is what a node does when it steps. It is nil if the node cannot step.
type step func()

// A node is an operator with its queues.
type node struct {
	oper   *oper.Oper
	leaf   bool
	every  int64
	from   []int          // the places of those that feed it
	in     []*queue.Queue // that of each side
	out    []*queue.Queue // where it puts what it emits
	outlet *queue.Queue   // one of out, or nil if it is no tap
}

// newNode returns a node of a valid plan, which feeds no other one.
func newNode(n api.Node, mark int64, room int) *node {
	x := &node{leaf: len(n.In) == 0, every: n.Every}
	// What is valid for a plan is valid for an operator.
	x.oper, _ = oper.New(n, mark)
	for range max(len(n.In), 1) {
		x.in = append(x.in, newQueue(room))
	}
	return x
}

// newQueue returns an empty queue. The room is valid.
func newQueue(room int) *queue.Queue {
	q, _ := queue.New(room)
	return q
}

// keep makes the node a tap.
func (x *node) keep(room int) {
	x.outlet = newQueue(room)
	x.out = append(x.out, x.outlet)
}

// leafStep returns the next step of a leaf.
func (x *node) leafStep() step {
	i, is := x.in[0].First()
	if !is {
		return nil
	}
	if i.Kind == api.ItemSample {
		return func() { x.sample(i.Sample) }
	}
	to := x.reach(i.Time)
	if to < i.Time && to <= x.oper.Told() {
		return nil
	}
	return func() { x.pass(to, to == i.Time) }
}

// sample gives the first item, a sample, to a leaf.
func (x *node) sample(s api.Sample) {
	x.in[0].Take()
	// It is dropped, without effect, if the leaf does not take it, or it is late.
	x.oper.Sample(s)
}

// reach returns how far towards a time a leaf may pass: up to that time, or up to
// the last one of the grid for which there is room, which is not above what it has
// emitted if there is room for none.
func (x *node) reach(time int64) int64 {
	times := api.Query{Every: x.every}
	room := least(api.MaxTimes, x.out...)
	last := grid.Last(times, x.oper.Told()) + int64(room)*x.every
	if grid.Last(times, time) > last {
		return last
	}
	return time
}

// pass lets a leaf pass a time. If this is the whole of the first item, the item is
// removed.
func (x *node) pass(time int64, whole bool) {
	if whole {
		x.in[0].Take()
	}
	// Nothing is emitted for a time that is not after what it has emitted.
	l, _ := x.oper.Pass(time)
	x.emit(l)
}

// takeStep returns the next step of a node that is no leaf.
func (x *node) takeStep() step {
	for at := range x.in {
		if x.fits(at) {
			return func() { x.take(at) }
		}
	}
	return nil
}

// fits reports whether the queue at a place has a batch that there is room to
// process.
func (x *node) fits(at int) bool {
	if x.in[at].Len() == 0 || x.oper.Waits(at+1) == api.MaxTimes {
		return false
	}
	return !x.ready(at) || least(1, x.out...) == 1
}

// ready reports whether the operator emits when it gets a batch from the side at a
// place: a batch of each other side waits.
func (x *node) ready(at int) bool {
	for other := range x.in {
		if other != at && x.oper.Waits(other+1) == 0 {
			return false
		}
	}
	return true
}

// take gives the first batch of the queue at a place to the operator.
func (x *node) take(at int) {
	i, _ := x.in[at].Take()
	// The batches of a side are those of one node, in order, so that the operator
	// takes each of them.
	l, _ := x.oper.Take(at+1, i.Batch)
	x.emit(l)
}

// emit puts batches, for which there is room, where they go.
func (x *node) emit(l []api.Batch) {
	var items []api.Item
	for _, b := range l {
		items = append(items, api.Item{Kind: api.ItemBatch, Batch: b})
	}
	send(items, x.out...)
}

// send puts items into queues, each of which has room for all of them.
func send(l []api.Item, to ...*queue.Queue) {
	for _, q := range to {
		q.Put(l...)
	}
}

// least returns for how many items there is room in each queue, but at most most.
func least(most int, of ...*queue.Queue) int {
	for _, q := range of {
		most = min(most, q.Room())
	}
	return most
}
