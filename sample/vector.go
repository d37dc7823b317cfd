package sample

import (
	"slices"
	"strconv"
	"strings"

	"waterwheel/api"
	"waterwheel/label"
	"waterwheel/number"
)

// CheckVector returns ErrLong if v has too many results, and ErrArg if v is not
// a vector.
func CheckVector(v []api.Result) api.Errno {
	if e := checkResults(v); e != api.OK {
		return e
	}
	return checkOrder(v)
}

// Sort returns results as a vector.
func Sort(v []api.Result) ([]api.Result, api.Errno) {
	if e := checkResults(v); e != api.OK {
		return nil, e
	}
	own := clone(v)
	slices.SortFunc(own, compare)
	if e := checkOrder(own); e != api.OK {
		return nil, e
	}
	return own, api.OK
}

// Same reports whether a and b are equal, result by result.
func Same(a, b []api.Result) bool {
	return slices.EqualFunc(a, b, same)
}

// Find returns the value of the first result with the labels l.
func Find(v []api.Result, l []api.Label) (api.Value, bool) {
	// Labels that are not valid have no place in the order of a vector.
	if label.Check(l) != api.OK || CheckVector(v) != api.OK {
		return search(v, l)
	}
	at, is := slices.BinarySearchFunc(v, l, toLabels)
	if !is {
		return api.Value{}, false
	}
	return v[at].Value, true
}

// Lines returns one line for each result.
func Lines(v []api.Result) string {
	var b strings.Builder
	for _, x := range v {
		b.WriteString(label.Text(x.Labels))
		b.WriteByte(' ')
		if x.Over {
			b.WriteString("over")
		} else {
			b.WriteString(strconv.FormatInt(x.N, 10))
		}
		b.WriteByte('\n')
	}
	return b.String()
}

// checkResults returns ErrLong if v has too many results, and ErrArg if one of
// them is in no vector.
func checkResults(v []api.Result) api.Errno {
	if len(v) > api.MaxVector {
		return api.ErrLong
	}
	if slices.ContainsFunc(v, wrong) {
		return api.ErrArg
	}
	return api.OK
}

// checkOrder returns ErrArg if the labels of a result do not come before those
// of the next one. All labels are valid.
func checkOrder(v []api.Result) api.Errno {
	for i := 1; i < len(v); i++ {
		if compare(v[i-1], v[i]) >= 0 {
			return api.ErrArg
		}
	}
	return api.OK
}

// wrong reports whether x is in no vector.
func wrong(x api.Result) bool {
	return label.Check(x.Labels) != api.OK || number.Check(x.Value) != api.OK
}

// toLabels compares the labels of x with l.
func toLabels(x api.Result, l []api.Label) int {
	return label.Compare(x.Labels, l)
}

// compare compares x and y by their labels.
func compare(x, y api.Result) int {
	return toLabels(x, y.Labels)
}

// same reports whether x and y are equal.
func same(x, y api.Result) bool {
	return x.Value == y.Value && slices.Equal(x.Labels, y.Labels)
}

// clone returns v with labels of its own.
func clone(v []api.Result) []api.Result {
	own := slices.Clone(v)
	for i := range own {
		own[i].Labels = slices.Clone(own[i].Labels)
	}
	return own
}

// search is Find for results in any order, and for any labels.
func search(v []api.Result, l []api.Label) (api.Value, bool) {
results:
	for _, x := range v {
		if len(x.Labels) != len(l) {
			continue
		}
		for i := range l {
			if x.Labels[i] != l[i] {
				continue results
			}
		}
		return x.Value, true
	}
	return api.Value{}, false
}
