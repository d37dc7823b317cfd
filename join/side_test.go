package join

import (
	"strconv"
	"testing"

	"waterwheel/api"
)

// A home is made for its first result, and dropped with its last one; the number
// of results of a side is kept.
func TestHomes(t *testing.T) {
	j, _ := New(api.OpAdd, []string{"a"})
	at := func(n int) []api.Label {
		return []api.Label{{Name: "a", Text: strconv.Itoa(n % 5)}, {Name: "b", Text: strconv.Itoa(n)}}
	}
	for round := range 4 {
		side := round%2 + 1
		p, _ := placeOf(side)
		for n := range 100 {
			for range 2 {
				j.Set(side, []api.Change{{Labels: at(n), Value: api.Value{N: int64(n)}}})
			}
			if want := min(n+1, 5); len(j.sides[p]) != want || j.sizes[p] != n+1 || len(j.sides[1-p]) != 0 || j.sizes[1-p] != 0 {
				t.Fatalf("%d homes, not %d, %v results", len(j.sides[p]), want, j.sizes)
			}
		}
		for n := range 100 {
			for range 2 {
				j.Set(side, []api.Change{{Labels: at(n), Gone: true}})
			}
			if want := min(99-n, 5); len(j.sides[p]) != want || j.sizes[p] != 99-n {
				t.Fatalf("%d homes, not %d, %v results", len(j.sides[p]), want, j.sizes)
			}
		}
	}
}

// A home has an only result, or none, or several.
func TestOnly(t *testing.T) {
	x, y := &api.Result{}, &api.Result{}
	for _, c := range []struct {
		h         home
		only, any bool
	}{
		{nil, false, false}, {home{}, false, false}, {home{"x": x}, true, true}, {home{"x": x, "y": y}, false, true},
	} {
		if only, any := c.h.only(), c.h.any(); (only == x) != c.only || (only == nil) == c.only || (any == x || any == y) != c.any {
			t.Errorf("%v: %v and %v", c.h, only, any)
		}
	}
}
