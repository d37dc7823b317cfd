package join

import (
	"slices"

	"waterwheel/api"
	"waterwheel/group"
	"waterwheel/label"
)

// A place is that of a side in an array.
type place int

const (
	left place = iota
	right
	places // how many there are
)

// placeOf returns the place of a side, if there is such a side.
func placeOf(side int) (place, bool) {
	switch side {
	case 1:
		return left, true
	case 2:
		return right, true
	}
	return 0, false
}

// A home has those results of a side that share the labels by which they are
// matched. The keys are those of all their labels.
type home map[string]*api.Result

// any returns one of the results, or nil if there are none.
func (h home) any() *api.Result {
	for _, x := range h {
		return x
	}
	return nil
}

// only returns the only result, or nil if there are none or several.
func (h home) only() *api.Result {
	if len(h) > 1 {
		return nil
	}
	return h.any()
}

// A move is a change with the keys of its home and of its labels.
type move struct {
	home, key string
	change    api.Change
}

// moves returns the last one of the changes of the same labels, as the others
// have no effect, by the keys of these labels.
func (j *Join) moves(l []api.Change) map[string]move {
	last := map[string]move{}
	for _, c := range l {
		key := label.Key(c.Labels)
		last[key] = move{home: label.Key(label.Only(c.Labels, j.names)), key: key, change: c}
	}
	return last
}

// homes returns the keys of the homes of moves.
func homes(moves map[string]move) []string {
	var keys []string
	for _, m := range moves {
		keys = append(keys, m.home)
	}
	return keys
}

// sizeAfter returns how many results a side would have after moves.
func (j *Join) sizeAfter(at place, moves map[string]move) int {
	n := j.sizes[at]
	for _, m := range moves {
		if j.sides[at][m.home][m.key] != nil {
			n--
		}
		if !m.change.Gone {
			n++
		}
	}
	return n
}

// move changes the results of a side. A home is made for its first result, and
// is dropped with its last one.
func (j *Join) move(at place, m move) {
	h := j.sides[at][m.home]
	if h == nil {
		h = home{}
	}
	j.sizes[at] -= len(h)
	if m.change.Gone {
		delete(h, m.key)
	} else {
		h[m.key] = &api.Result{Labels: slices.Clone(m.change.Labels), Value: m.change.Value}
	}
	j.sizes[at] += len(h)
	if len(h) > 0 {
		j.sides[at][m.home] = h
	} else {
		delete(j.sides[at], m.home)
	}
}

// check returns the first error of group.CheckChange.
func check(l []api.Change) api.Errno {
	for _, c := range l {
		if e := group.CheckChange(c); e != api.OK {
			return e
		}
	}
	return api.OK
}
