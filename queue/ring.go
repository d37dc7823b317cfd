package queue

import (
	"waterwheel/api"
)

// A ring has items in a slice. Its two places count on and on: what has a place
// is in the slice where this is left when it is divided by the length.
type ring struct {
	cells []api.Item
	first int // the place of the first item
	end   int // the place behind the last one
}

// size returns how many items there are.
func (r *ring) size() int {
	return r.end - r.first
}

// cell returns the cell of a place.
func (r *ring) cell(place int) *api.Item {
	return &r.cells[place%len(r.cells)]
}

// get returns the item that has n items before it.
func (r *ring) get(n int) api.Item {
	return *r.cell(r.first + n)
}

// put puts an item at the end. There is a cell for it.
func (r *ring) put(i api.Item) {
	*r.cell(r.end) = i
	r.end++
}

// take removes the first item, and returns it. There is one.
func (r *ring) take() api.Item {
	cell := r.cell(r.first)
	i := *cell
	// What is gone is not kept in its cell.
	*cell = api.Item{}
	r.first++
	return i
}

// fit provides cells for n more items: at least twice as many as before if there
// are too few, so that the items are seldom moved, but no more than most. Most
// queues never need as many cells as they have room.
func (r *ring) fit(n, most int) {
	need := r.size() + n
	if need <= len(r.cells) {
		return
	}
	more := ring{cells: make([]api.Item, min(max(need, 2*len(r.cells)), most))}
	for r.size() > 0 {
		more.put(r.take())
	}
	*r = more
}
