package grid

import (
	"cmp"
	"slices"

	"waterwheel/api"
	"waterwheel/ast"
)

// In reports whether time is in the window of the span at the time at.
func In(span, at, time int64) bool {
	// The distance of two times may be more than an int64 holds, but is never
	// more than a uint64 holds.
	return span >= 1 && time <= at && uint64(at)-uint64(time) < uint64(span)
}

// Needed reports whether a sample with this time is needed by q after the mark.
func Needed(q api.Query, mark, time int64) bool {
	if ast.Check(q) != api.OK {
		return false
	}
	// Of the windows that do not end before the time, the first one begins
	// before all later ones; those of all leaves end together, so that the
	// longest of them decides. (Times below 1 are before each grid.)
	at, is := Next(q, max(mark, max(time, 1)-1))
	return is && In(ast.Horizon(q.Expr), at, time)
}

// Keep returns the greatest time, from 0 to the mark, such that no sample with
// this time or an earlier one is needed by any query of l after the mark.
func Keep(l []api.Query, mark int64) int64 {
	// Without queries nothing up to the mark is needed.
	reaches := []reach{{at: mark}}
	for _, q := range l {
		if at, is := Next(q, mark); is && ast.Check(q) == api.OK {
			reaches = append(reaches, reach{at: at, horizon: ast.Horizon(q.Expr)})
		}
	}
	return max(furthest(reaches...).floor(), 0)
}

// Mark returns the watermark of some times.
func Mark(late int64, times ...int64) (int64, api.Errno) {
	if late < 0 {
		return 0, api.ErrArg
	}
	greatest := int64(0)
	for _, t := range times {
		if t < 1 || t > api.MaxTime {
			return 0, api.ErrArg
		}
		greatest = max(greatest, t)
	}
	return max(greatest-late, 0), api.OK
}

// A reach is how far something reaches back: from a time, by a horizon.
type reach struct {
	at, horizon int64
}

// floor returns the greatest time that is not reached.
func (r reach) floor() int64 {
	return r.at - r.horizon
}

// furthest returns that of one or more reaches which has the least floor.
func furthest(l ...reach) reach {
	return slices.MinFunc(l, func(a, b reach) int { return cmp.Compare(a.floor(), b.floor()) })
}
