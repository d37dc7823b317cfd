package number

import (
	"math/bits"

	"waterwheel/api"
)

// A sum is a great sum whose methods can be chained.
type sum api.Great

// Put returns g with v added.
func Put(g api.Great, v api.Value) api.Great {
	return sum(g).plus(only(v)).great()
}

// Take returns g with v subtracted.
func Take(g api.Great, v api.Value) api.Great {
	return sum(g).minus(only(v)).great()
}

// Both returns the sum of g and h.
func Both(g, h api.Great) api.Great {
	return sum(g).plus(sum(h)).great()
}

// Value returns the value of g.
func Value(g api.Great) api.Value {
	return sum(g).value()
}

// only returns the sum of v alone. The N of a value that is over counts as
// nothing, even if it is not 0.
func only(v api.Value) sum {
	if v.Over {
		return sum{Overs: 1}
	}
	return sum{High: signs(v.N), Low: uint64(v.N)}
}

// signs returns the word above n in two words: each of its bits is n's sign.
func signs(n int64) int64 {
	return n >> 63
}

// plus returns s with t added.
func (s sum) plus(t sum) sum {
	low, carry := bits.Add64(s.Low, t.Low, 0)
	high, _ := bits.Add64(uint64(s.High), uint64(t.High), carry)
	return sum{High: int64(high), Low: low, Overs: s.Overs + t.Overs}
}

// minus returns s with t subtracted.
func (s sum) minus(t sum) sum {
	low, borrow := bits.Sub64(s.Low, t.Low, 0)
	high, _ := bits.Sub64(uint64(s.High), uint64(t.High), borrow)
	return sum{High: int64(high), Low: low, Overs: s.Overs - t.Overs}
}

// value returns the value of s.
func (s sum) value() api.Value {
	n := int64(s.Low)
	if s.Overs != 0 || s.High != signs(n) {
		return over()
	}
	return Of(n)
}

// great returns s as the type that is exported.
func (s sum) great() api.Great {
	return api.Great(s)
}
