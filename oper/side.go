package oper

import (
	"slices"

	"waterwheel/api"
	"waterwheel/group"
)

// Sides have, for each side of an operator, its results, and the batches that
// wait to be applied to them.
type sides struct {
	results [][]api.Result
	ahead   [][]api.Result // the results after all batches that wait
	waits   [][]api.Batch
}

// newSides returns n sides without results.
func newSides(n int) *sides {
	return &sides{results: make([][]api.Result, n), ahead: make([][]api.Result, n), waits: make([][]api.Batch, n)}
}

// has reports whether there is a side with this number.
func (s *sides) has(side int) bool {
	return 1 <= side && side <= len(s.waits)
}

// last returns the time of the last batch that waits on the side at a place, or
// told if none does.
func (s *sides) last(at int, told int64) int64 {
	waits := s.waits[at]
	if len(waits) == 0 {
		return told
	}
	return waits[len(waits)-1].Time
}

// put lets a batch with valid changes wait on the side at a place. It returns
// ErrLong if there are too many batches, or would be too many results.
func (s *sides) put(at int, b api.Batch) api.Errno {
	if len(s.waits[at]) == api.MaxTimes {
		return api.ErrLong
	}
	ahead, e := group.Apply(s.ahead[at], b.Changes)
	if e != api.OK {
		return e
	}
	own := api.Batch{Time: b.Time, Changes: slices.Clone(b.Changes)}
	for i, c := range own.Changes {
		own.Changes[i].Labels = slices.Clone(c.Labels)
	}
	s.waits[at] = append(s.waits[at], own)
	s.ahead[at] = ahead
	return api.OK
}

// cut applies the first batch that waits on each side, and removes it. It returns
// the time of these batches.
func (s *sides) cut() (time int64) {
	for at, waits := range s.waits {
		time = waits[0].Time
		if len(waits) == 1 {
			s.results[at], s.waits[at] = s.ahead[at], nil
			continue
		}
		s.results[at], _ = group.Apply(s.results[at], waits[0].Changes)
		// What is cut off is still in memory behind the list, unless it is
		// overwritten.
		waits[0] = api.Batch{}
		s.waits[at] = waits[1:]
	}
	return time
}

// write writes each side.
func (s *sides) write(w *writer) {
	for at := range s.waits {
		w.results(s.results[at])
		w.size(len(s.waits[at]))
		for _, b := range s.waits[at] {
			w.whole(b.Time)
			w.changes(b.Changes)
		}
	}
}
