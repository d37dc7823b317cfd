package group

import (
	"waterwheel/api"
	"waterwheel/label"
	"waterwheel/number"
	"waterwheel/sample"
)

// CheckChange returns the error of label.Check for the labels of c, and ErrArg
// if its value is not valid, or is not zero although it is gone.
func CheckChange(c api.Change) api.Errno {
	if e := label.Check(c.Labels); e != api.OK {
		return e
	}
	if c.Gone && c.Value != (api.Value{}) {
		return api.ErrArg
	}
	return number.Check(c.Value)
}

// Changes returns the changes that turn a into b, in the order of their labels.
func Changes(a, b []api.Result) []api.Change {
	if sample.CheckVector(a) != api.OK || sample.CheckVector(b) != api.OK {
		return nil
	}
	return changes(tabled(a), tabled(b))
}

// Apply returns v after changes. It returns ErrLong if it would then have too
// many results.
func Apply(v []api.Result, l []api.Change) ([]api.Result, api.Errno) {
	if e := sample.CheckVector(v); e != api.OK {
		return nil, e
	}
	if e := check(l); e != api.OK {
		return nil, e
	}
	t := tabled(v)
	for key, c := range latest(l) {
		t.set(key, c)
	}
	if len(t) > api.MaxVector {
		return nil, api.ErrLong
	}
	return t.vector(), api.OK
}

// check returns the first error of CheckChange.
func check(l []api.Change) api.Errno {
	for _, c := range l {
		if e := CheckChange(c); e != api.OK {
			return e
		}
	}
	return api.OK
}

// latest returns the last one of the changes of the same labels, by the keys of
// these: the others have no effect.
func latest(l []api.Change) map[string]api.Change {
	last := map[string]api.Change{}
	for _, c := range l {
		last[keyOf(c.Labels)] = c
	}
	return last
}
