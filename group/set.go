package group

import (
	"waterwheel/api"
	"waterwheel/bag"
	"waterwheel/number"
)

// A set has the labels that some results share, and the values of these: their
// sum, and each of them.
type set struct {
	labels []api.Label
	sum    api.Great
	values *bag.Bag
}

// newSet returns a set without values.
func newSet(labels []api.Label) *set {
	return &set{labels: labels, values: bag.New()}
}

// put adds a value.
func (s *set) put(v api.Value) {
	s.sum = number.Put(s.sum, v)
	s.values.Put(v)
}

// take removes a value, which must be there.
func (s *set) take(v api.Value) {
	s.sum = number.Take(s.sum, v)
	s.values.Take(v)
}

// empty reports whether there are no values.
func (s *set) empty() bool {
	return s.values.Len() == 0
}

// value returns the value of a function for the values, of which there must be
// one at least.
func (s *set) value(fn int) (v api.Value) {
	switch fn {
	case api.GrTotal:
		v = number.Value(s.sum)
	case api.GrMany:
		v = number.Of(int64(s.values.Len()))
	case api.GrLeast:
		v, _ = s.values.Least()
	case api.GrMost:
		v, _ = s.values.Most()
	}
	return v
}
