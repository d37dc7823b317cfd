package group_test

import (
	"strconv"
	"testing"

	"waterwheel/api"
	"waterwheel/group"
	"waterwheel/sample"
)

// P15.3, P15.2: changes that look like chance, against the reference and
// batch.Group, also after reads.
func TestChance(t *testing.T) {
	d := dice(11)
	for range 900 {
		x := made(t, 1+d.of(4), d.names()...)
		for range 20 {
			x.set(t, d.changes(1+d.of(8))...)
			x.check(t)
			if d.of(8) == 0 {
				x.again(t)
				x.check(t)
			}
		}
	}
}

// P15.3: all lists of four calls: few changes of few labels.
func TestEveryCall(t *testing.T) {
	calls := [][]api.Change{
		{put(2, "a", "x", "b", "1")},
		{put(-1, "a", "x", "b", "1"), putOver("a", "y")},
		{put(3, "a", "x"), put(2, "a", "y")},
		{gone("a", "x", "b", "1")},
		{gone("a", "x"), gone("a", "y")},
		{putOver("a", "x"), put(3)},
		{gone(), put(5, "a", "y", "b", "1")},
	}
	for _, fn := range functions() {
		for _, names := range [][]string{nil, {"a"}, {"b"}} {
			for list := range 7 * 7 * 7 * 7 {
				x := made(t, fn, names...)
				for range 4 {
					x.set(t, calls[list%len(calls)]...)
					list /= len(calls)
				}
				x.check(t)
			}
		}
	}
}

// P15.3: Apply of Changes results in the other vector.
func TestApplyOfChanges(t *testing.T) {
	d := dice(2)
	for range 20000 {
		v, w := d.vector(20), d.vector(20)
		if got, e := group.Apply(v, group.Changes(v, w)); e != api.OK || !sample.Same(got, w) {
			t.Fatalf("from %s to %s: error %d and %s", short(v), short(w), e, short(got))
		}
	}
	v := many(4096)
	w := refApply(v[1000:], []api.Change{put(7, "b", "x"), putOver("c", "x"), putOver("a", "12000", "b", "a")})
	for _, x := range [][2][]api.Result{{v, w}, {w, v}, {v, nil}, {nil, v}, {v, v}} {
		if got, e := group.Apply(x[0], group.Changes(x[0], x[1])); e != api.OK || !sample.Same(got, x[1]) {
			t.Errorf("from %d results to %d: error %d and %d", len(x[0]), len(x[1]), e, len(got))
		}
	}
}

// P15.3, P15.2: what Set returns, applied one after another, is the vector.
func TestApplyOfSet(t *testing.T) {
	d := dice(8)
	for range 300 {
		x, v := made(t, 1+d.of(4), d.names()...), []api.Result(nil)
		for range 20 {
			l, e := x.g.Set(d.changes(6))
			if e != api.OK {
				t.Fatalf("error %d", e)
			}
			if v, e = group.Apply(v, l); e != api.OK || !sample.Same(v, x.g.Vector()) {
				t.Fatalf("error %d and %s, not %s", e, short(v), short(x.g.Vector()))
			}
		}
	}
}

// P15.3: a group that was read has the same results from then on.
func TestReadContinues(t *testing.T) {
	d := dice(21)
	for range 200 {
		x := made(t, 1+d.of(4), d.names()...)
		for range 6 {
			x.set(t, d.changes(10)...)
			once := &pair{read(t, string(x.g.Bytes())), x.r}
			for range 6 {
				once.set(t, d.changes(6)...)
				once.check(t)
			}
			x.check(t)
		}
	}
}

// P15.2, P15.3: many small changes of a great group, each of which concerns few
// results.
func TestGreat(t *testing.T) {
	const n, sets = 4096, 64
	for _, fn := range functions() {
		x := filled(t, fn, []string{"b"})
		value := func(i, round int) int64 { return int64(i/sets*7%64 + 100*round) }
		labels := func(i int) []api.Label {
			return list("a", strconv.Itoa(i/sets), "b", strconv.Itoa(i%sets))
		}
		var first []api.Change
		for i := range n {
			first = append(first, api.Change{Labels: labels(i), Value: api.Value{N: value(i, 0)}})
		}
		x.set(t, first...)
		x.check(t)
		for round := 1; round <= 8; round++ {
			for i := range n {
				l, e := x.g.Set([]api.Change{{Labels: labels(i), Value: api.Value{N: value(i, round)}}})
				if e != api.OK || len(l) > 1 || fn == api.GrTotal && len(l) != 1 || fn == api.GrMany && len(l) != 0 {
					t.Fatalf("%d: error %d and %v", fn, e, l)
				}
			}
		}
		want := map[int]int64{api.GrTotal: 64*63/2 + 64*800, api.GrMany: 64, api.GrLeast: 800, api.GrMost: 863}[fn]
		if v := x.g.Vector(); len(v) != sets || v[0].Value != (api.Value{N: want}) || v[sets-1].Value != v[0].Value {
			t.Errorf("%d: %v, not %d", fn, v, want)
		}
	}
}
