package batch

import (
	"cmp"
	"slices"

	"waterwheel/api"
	"waterwheel/number"
)

// Window returns the value of a function of a window for points in their given
// order, or false if it has none.
func Window(fn int, p []api.Point) (api.Value, bool) {
	l := values(p)
	if len(l) == 0 || slices.ContainsFunc(l, invalid) {
		return api.Value{}, false
	}
	switch fn {
	case api.FnSum:
		return total(l), true
	case api.FnCount:
		return count(l), true
	case api.FnMin:
		return least(l), true
	case api.FnMax:
		return most(l), true
	case api.FnLast:
		return l[len(l)-1], true
	case api.FnIncrease:
		return increase(l), true
	}
	return api.Value{}, false
}

// grouped returns the value of a function of a group for one or more values.
func grouped(fn int, l []api.Value) api.Value {
	switch fn {
	case api.GrTotal:
		return total(l)
	case api.GrMany:
		return count(l)
	case api.GrLeast:
		return least(l)
	default:
		return most(l)
	}
}

// values returns the values of points.
func values(p []api.Point) []api.Value {
	l := make([]api.Value, len(p))
	for i, x := range p {
		l[i] = x.Value
	}
	return l
}

// invalid reports whether v is not valid.
func invalid(v api.Value) bool {
	return number.Check(v) != api.OK
}

// total returns the sum of l.
func total(l []api.Value) api.Value {
	var g api.Great
	for _, v := range l {
		g = number.Put(g, v)
	}
	return number.Value(g)
}

// count returns how many values l has.
func count(l []api.Value) api.Value {
	return number.Of(int64(len(l)))
}

// least returns the least value of l.
func least(l []api.Value) api.Value {
	return unlessOver(l, slices.MinFunc(l, byNumber))
}

// most returns the greatest value of l.
func most(l []api.Value) api.Value {
	return unlessOver(l, slices.MaxFunc(l, byNumber))
}

// increase returns by how much l increases. A number that is less than the one
// before it has begun again at 0.
func increase(l []api.Value) api.Value {
	var g api.Great
	for i := 1; i < len(l); i++ {
		g = number.Put(g, l[i])
		if l[i].N >= l[i-1].N {
			g = number.Take(g, l[i-1])
		}
	}
	return unlessOver(l, number.Value(g))
}

// unlessOver returns v, or over if one of l is over.
func unlessOver(l []api.Value, v api.Value) api.Value {
	if slices.ContainsFunc(l, isOver) {
		return api.Value{Over: true}
	}
	return v
}

// isOver reports whether v is over.
func isOver(v api.Value) bool {
	return v.Over
}

// byNumber compares values that are not over.
func byNumber(a, b api.Value) int {
	return cmp.Compare(a.N, b.N)
}
