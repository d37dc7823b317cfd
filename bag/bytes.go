package bag

import (
	"math"
	"slices"

	"waterwheel/api"
	"waterwheel/wire"
)

// most is the greatest sum of counts that is read.
const most = math.MaxInt32

// Bytes returns a bag as bytes.
func (b *Bag) Bytes() []byte {
	if !b.valid() {
		return nil
	}
	l := b.Counts()
	// The parts are joined at the end, because wire copies what it adds to.
	parts := [][]byte{size(b.overs), size(len(l))}
	for _, o := range l {
		parts = append(parts, wire.Signed(nil, o.N), size(o.Times))
	}
	return slices.Concat(parts...)
}

// size returns a count as bytes.
func size(n int) []byte {
	return wire.Number(nil, uint64(n))
}

// Read returns the bag whose bytes are b.
func Read(b []byte) (*Bag, api.Errno) {
	x, r := New(), wire.New(b)
	x.overs = r.Count(most)
	for range r.Count(most) {
		if !x.read(r) {
			return nil, api.ErrBad
		}
	}
	if r.End() != api.OK {
		return nil, api.ErrBad
	}
	return x, api.OK
}

// read reads a number with its count. It returns false if they cannot follow
// what was read before.
func (b *Bag) read(r *wire.Reader) bool {
	n, times := r.Signed(), r.Count(most-b.Len())
	// Times is 0 also after an error.
	if times == 0 {
		return false
	}
	if b.numbers.top != nil && n <= b.numbers.end(above) {
		return false
	}
	b.numbers.put(n, times)
	return true
}
