package buffer

import (
	"cmp"
	"slices"

	"waterwheel/api"
)

// room is how many points a block has at most. Few enough that moving them is
// cheap, and that a buffer with few points is small.
const room = 64

// A block has the first size points of its array, in ascending order of their
// times.
type block struct {
	points [room]api.Point
	size   int
}

// begin returns the time of the first point.
func (k *block) begin() int64 {
	return k.points[0].Time
}

// end returns the time of the last point.
func (k *block) end() int64 {
	return k.points[k.size-1].Time
}

// compare compares the time of the first point with a time.
func (k *block) compare(time int64) int {
	return cmp.Compare(k.begin(), time)
}

// full reports whether there is no room for another point.
func (k *block) full() bool {
	return k.size == room
}

// upTo returns how many points are at or before a time.
func (k *block) upTo(time int64) int {
	i, is := slices.BinarySearchFunc(k.points[:k.size], time, func(p api.Point, time int64) int {
		return cmp.Compare(p.Time, time)
	})
	if is {
		return i + 1
	}
	return i
}

// above returns the points above a time. They are still those of the block.
func (k *block) above(time int64) []api.Point {
	return k.points[k.upTo(time):k.size]
}

// last returns the last point at or before a time, or false if there is none.
func (k *block) last(time int64) (api.Point, bool) {
	n := k.upTo(time)
	if n == 0 {
		return api.Point{}, false
	}
	return k.points[n-1], true
}

// put adds a point at whose time there is none. The block must not be full.
func (k *block) put(p api.Point) {
	i := k.upTo(p.Time)
	copy(k.points[i+1:], k.points[i:k.size])
	k.points[i] = p
	k.size++
}

// split moves the later half of the points to a new block, and returns it.
func (k *block) split() *block {
	half := k.size / 2
	next := &block{}
	next.size = copy(next.points[:], k.points[half:k.size])
	k.size = half
	return next
}

// cut removes the points at or before a time, and returns how many there were.
func (k *block) cut(time int64) int {
	n := k.upTo(time)
	k.size = copy(k.points[:], k.points[n:k.size])
	return n
}
