package join_test

import (
	"strconv"
	"testing"

	"waterwheel/api"
	"waterwheel/group"
	"waterwheel/sample"
)

// P16.3, P16.2: changes that look like chance, against the reference and
// batch.Join, also after reads.
func TestChance(t *testing.T) {
	d := dice(11)
	pairs, several := 0, 0
	for range 900 {
		x := made(t, 1+d.of(3), d.names()...)
		for range 24 {
			x.set(t, d.side(), d.changes(1+d.of(12))...)
			x.check(t)
			pairs, several = pairs+len(x.j.Vector()), several+len(x.j.Many())
			if d.of(8) == 0 {
				x.again(t)
				x.check(t)
			}
		}
	}
	if pairs < 10000 || several < 20000 {
		t.Errorf("only %d pairs and %d labels of several results", pairs, several)
	}
}

// P16.3: all lists of four calls: few changes of few labels of a side.
func TestEveryCall(t *testing.T) {
	type call struct {
		side    int
		changes []api.Change
	}
	calls := []call{
		{1, []api.Change{put(2, "a", "x", "b", "1")}},
		{1, []api.Change{put(3, "a", "x"), gone("a", "y"), put(8)}},
		{1, []api.Change{gone("a", "x", "b", "1"), putOver("a", "y")}},
		{1, []api.Change{gone("a", "x"), gone()}},
		{2, []api.Change{put(5, "a", "x"), put(6, "a", "y", "b", "1")}},
		{2, []api.Change{put(7, "a", "x", "b", "1"), gone("a", "y", "b", "1")}},
		{2, []api.Change{gone("a", "x"), put(9, "b", "1")}},
		{2, []api.Change{gone("a", "x", "b", "1"), gone("b", "1")}},
	}
	for _, op := range operators() {
		for _, names := range [][]string{nil, {"a"}, {"b"}} {
			for list := range 8 * 8 * 8 * 8 {
				x := made(t, op, names...)
				for range 4 {
					c := calls[list%len(calls)]
					x.set(t, c.side, c.changes...)
					list /= len(calls)
				}
				x.check(t)
			}
		}
	}
}

// P16.1, P16.3: what Set returns, applied one after another, is the output.
func TestApplyOfSet(t *testing.T) {
	d := dice(8)
	for range 300 {
		x, v := made(t, 1+d.of(3), d.names()...), []api.Result(nil)
		for range 20 {
			l, e := x.j.Set(d.side(), d.changes(12))
			if e != api.OK {
				t.Fatalf("error %d", e)
			}
			if v, e = group.Apply(v, l); e != api.OK || !sample.Same(v, x.j.Vector()) {
				t.Fatalf("error %d and %s, not %s", e, short(v), short(x.j.Vector()))
			}
		}
	}
}

// P16.2: a join that was read has the same results from then on.
func TestReadContinues(t *testing.T) {
	d := dice(21)
	for range 200 {
		x := made(t, 1+d.of(3), d.names()...)
		for range 6 {
			x.set(t, 1, d.changes(10)...)
			x.set(t, 2, d.changes(10)...)
			once := &pair{read(t, string(x.j.Bytes())), x.r}
			for range 6 {
				once.set(t, d.side(), d.changes(6)...)
				once.check(t)
			}
			x.check(t)
		}
	}
}

// P16.1, P16.3: many small changes of a great join, each of which concerns few
// results.
func TestGreat(t *testing.T) {
	const n = 4096
	labels := func(i int, more ...string) []api.Label {
		return append(list("a", strconv.Itoa(i)), list(more...)...)
	}
	x := made(t, api.OpSub, "a")
	var first, second []api.Change
	for i := range n {
		first = append(first, api.Change{Labels: labels(i), Value: api.Value{N: int64(i)}})
		second = append(second, api.Change{Labels: labels(i, "b", "y"), Value: api.Value{N: 1000}})
	}
	x.set(t, 1, first...)
	x.set(t, 2, second...)
	x.check(t)
	for round := int64(1); round <= 8; round++ {
		for i := range n {
			l, e := x.j.Set(1, []api.Change{{Labels: labels(i), Value: api.Value{N: round}}})
			if e != api.OK || len(l) > 1 || len(l) == 0 && int64(i) != round || len(l) == 1 && (l[0].N != round-1000 || l[0].Gone) {
				t.Fatalf("%d: error %d and %v", i, e, l)
			}
			l, e = x.j.Set(2, []api.Change{{Labels: labels(i, "b", "y"), Gone: true}})
			if e != api.OK || len(l) != 1 || !l[0].Gone {
				t.Fatalf("%d: error %d and %v", i, e, l)
			}
			l, e = x.j.Set(2, []api.Change{{Labels: labels(i, "b", "y"), Value: api.Value{N: 1000}}})
			if e != api.OK || len(l) != 1 || l[0].N != round-1000 {
				t.Fatalf("%d: error %d and %v", i, e, l)
			}
		}
	}
	if v := x.j.Vector(); len(v) != n || v[0].N != 8-1000 || v[n-1].N != 8-1000 {
		t.Errorf("%d results %s", len(v), short(v))
	}
}
