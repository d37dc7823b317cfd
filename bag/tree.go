package bag

import (
	"iter"

	"waterwheel/api"
)

// The sides of a node.
const (
	below = iota // 0: numbers below that of the node
	above        // 1: numbers above it
)

// A tree is a pointer to its top node, or to none. It is a struct because Go
// has no methods on a pointer to a pointer: those that change the tree have a
// pointer to this place, so that they can put another node there.
type tree struct {
	top *node
}

// A node is a number with its count, and the tops of the trees on its sides,
// whose heights differ by at most one between two calls.
type node struct {
	n     int64
	times int
	sides [2]tree

	tall int // the height of the tree whose top this is
	all  int // the sum of the counts in it
}

// total returns the sum of the counts.
func (t tree) total() int {
	if t.top == nil {
		return 0
	}
	return t.top.all
}

// height returns the greatest number of nodes from the top down.
func (t tree) height() int {
	if t.top == nil {
		return 0
	}
	return t.top.tall
}

// count returns the count of a number.
func (t tree) count(n int64) int {
	for t.top != nil {
		if t.top.n == n {
			return t.top.times
		}
		t = *t.top.toward(n)
	}
	return 0
}

// place returns the sum of the counts of the numbers below n.
func (t tree) place(n int64) int {
	sum := 0
	for t.top != nil {
		if t.top.n >= n {
			t = t.top.sides[below]
			continue
		}
		sum += t.top.sides[below].total() + t.top.times
		t = t.top.sides[above]
	}
	return sum
}

// end returns the last number towards one side. The tree must not be empty.
func (t tree) end(side int) int64 {
	for t.top.sides[side].top != nil {
		t = t.top.sides[side]
	}
	return t.top.n
}

// counts yields the numbers with their counts, in ascending order.
func (t tree) counts() iter.Seq[api.Often] {
	return func(yield func(api.Often) bool) {
		// later has nodes that are yielded before what is above them.
		later := t.descend(nil)
		for len(later) > 0 {
			last := len(later) - 1
			at := later[last]
			if !yield(api.Often{N: at.n, Times: at.times}) {
				return
			}
			later = at.sides[above].descend(later[:last])
		}
	}
}

// descend returns a stack with the nodes on the way to the least number added,
// that of the least number as the last one.
func (t tree) descend(stack []*node) []*node {
	for t.top != nil {
		stack = append(stack, t.top)
		t = t.top.sides[below]
	}
	return stack
}

// put adds a number some times.
func (t *tree) put(n int64, times int) {
	switch {
	case t.top == nil:
		t.top = &node{n: n, times: times}
	case t.top.n == n:
		t.top.times += times
	default:
		t.top.toward(n).put(n, times)
	}
	t.balance()
}

// take removes a number once, which must be in the tree.
func (t *tree) take(n int64) {
	switch {
	case t.top.n != n:
		t.top.toward(n).take(n)
	case t.top.times > 1:
		t.top.times--
	default:
		t.drop()
	}
	t.balance()
}

// drop removes the top node. What takes its place has yet to be balanced.
func (t *tree) drop() {
	old := t.top
	if old.sides[above].top == nil {
		*t = old.sides[below]
		return
	}
	t.top = old.sides[above].cut()
	t.top.sides = old.sides
}

// cut removes the node of the least number, and returns it. The tree must not
// be empty.
func (t *tree) cut() *node {
	least := t.top
	if least.sides[below].top == nil {
		*t = least.sides[above]
		return least
	}
	least = least.sides[below].cut()
	t.balance()
	return least
}

// balance makes the tree balanced again after one node was added to a side, or
// removed from it. The sides must be balanced.
func (t *tree) balance() {
	if t.top == nil {
		return
	}
	t.top.measure()
	for side := range t.top.sides {
		if t.top.lean(side) > 1 {
			// A side that leans to the other one would only move its height
			// there.
			if s := &t.top.sides[side]; s.top.lean(1-side) > 0 {
				s.raise(1 - side)
			}
			t.raise(side)
			return
		}
	}
}

// raise makes the top of one side that of the whole. The order of the numbers
// remains.
func (t *tree) raise(side int) {
	old := t.top
	t.top = old.sides[side].top
	old.sides[side] = t.top.sides[1-side]
	t.top.sides[1-side].top = old
	old.measure()
	t.top.measure()
}

// toward returns the place of the tree in which n is, if it is in one.
func (k *node) toward(n int64) *tree {
	if n < k.n {
		return &k.sides[below]
	}
	return &k.sides[above]
}

// lean returns by how much one side is higher than the other.
func (k *node) lean(side int) int {
	return k.sides[side].height() - k.sides[1-side].height()
}

// measure computes what the node has about its sides.
func (k *node) measure() {
	k.tall = 1 + max(k.sides[below].height(), k.sides[above].height())
	k.all = k.times + k.sides[below].total() + k.sides[above].total()
}
