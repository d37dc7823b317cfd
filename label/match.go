package label

import (
	"slices"

	"waterwheel/api"
)

// A condition reports whether it accepts a set.
type condition func(set []entry) bool

// CheckMatch returns ErrLong if m has too many matchers, and ErrArg if they are
// not valid.
func CheckMatch(m []api.Matcher) api.Errno {
	if len(m) > api.MaxMatch {
		return api.ErrLong
	}
	if slices.ContainsFunc(m, wrongMatch) {
		return api.ErrArg
	}
	return api.OK
}

// Takes reports whether all of m accept l.
func Takes(m []api.Matcher, l []api.Label) bool {
	if CheckMatch(m) != api.OK || !valid(l) {
		return false
	}
	set := entries(l)
	for _, accepts := range conditions(m) {
		if !accepts(set) {
			return false
		}
	}
	return true
}

// wrongMatch reports whether x is not a valid matcher.
func wrongMatch(x api.Matcher) bool {
	known := x.Kind == api.MatchIs || x.Kind == api.MatchNot
	return !known || !Name(x.Name) || len(x.Text) > maxText
}

// conditions returns valid matchers as conditions.
func conditions(m []api.Matcher) []condition {
	l := make([]condition, len(m))
	for i, x := range m {
		l[i] = func(set []entry) bool {
			is := first(set, x.Name, entry.toName).Text == x.Text
			return is == (x.Kind == api.MatchIs)
		}
	}
	return l
}
