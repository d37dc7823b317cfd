package slide

import (
	"slices"

	"waterwheel/api"
	"waterwheel/wire"
)

// Bytes returns a slide as bytes.
func (s *Slide) Bytes() []byte {
	if !s.valid() {
		return nil
	}
	// The parts are joined at the end, because wire copies what it adds to.
	parts := [][]byte{whole(int64(s.fn)), whole(s.span), whole(s.time), whole(int64(s.Len()))}
	before := int64(0)
	for _, p := range s.points.all() {
		parts = append(parts, whole(p.Time-before), wire.Signed(nil, p.N))
		before = p.Time
	}
	return slices.Concat(parts...)
}

// whole returns a number from 0 on as bytes.
func whole(n int64) []byte {
	return wire.Number(nil, uint64(n))
}

// Read returns the slide whose bytes are b.
func Read(b []byte) (*Slide, api.Errno) {
	r := wire.New(b)
	s, e := New(r.Count(api.FnIncrease), int64(r.Count(api.MaxSpan)))
	if e != api.OK {
		return nil, api.ErrBad
	}
	time, size := r.Number(), r.Number()
	for range size {
		// After an error the reader returns 0. Push refuses this, and also a
		// number so great that the sum wraps round.
		if s.Push(s.time+int64(r.Number()), r.Signed()) != api.OK {
			return nil, api.ErrBad
		}
	}
	// A point that is not in the window at this time is gone then.
	if r.End() != api.OK || s.Go(int64(time)) != api.OK || uint64(s.Len()) != size {
		return nil, api.ErrBad
	}
	return s, api.OK
}
