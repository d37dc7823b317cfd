package group_test

import (
	"math"
	"slices"
	"strconv"
	"strings"
	"testing"

	"waterwheel/api"
	"waterwheel/group"
	"waterwheel/sample"
)

// noNames has lists that are not valid Names.
func noNames() [][]string {
	return [][]string{
		{""}, {"A"}, {"1"}, {"a", ""}, {"", "a"}, {"a", "a"}, {"b", "a"}, {"aa", "a"}, {"a", "c", "b"}, {"a-b"},
		{strings.Repeat("a", 25)}, strings.Split("abcdefghi", ""), slices.Repeat([]string{""}, 100),
	}
}

// someNames has lists that are valid Names.
func someNames() [][]string {
	return [][]string{nil, {}, {"a"}, {"a", "aa", "b"}, {"_", "a0"}, {strings.Repeat("z", 24)}, strings.Split("abcdefgh", "")}
}

// P15.2: New.
func TestNew(t *testing.T) {
	for _, fn := range functions() {
		for _, names := range someNames() {
			made(t, fn, names...).check(t)
		}
		for _, names := range noNames() {
			if g, e := group.New(fn, names); g != nil || e != api.ErrArg {
				t.Errorf("new of %d, %q: a group %t, error %d", fn, names, g != nil, e)
			}
		}
	}
	for _, fn := range []int{math.MinInt, -1, 0, 5, 6, 7, 1<<32 + 1, math.MaxInt} {
		for _, names := range slices.Concat(someNames(), noNames()) {
			if g, e := group.New(fn, names); g != nil || e != api.ErrArg {
				t.Errorf("new of %d, %q: a group %t, error %d", fn, names, g != nil, e)
			}
		}
	}
}

// wantSet checks what Set returns, as pair.set does, and all that the group then
// has.
func wantSet(t *testing.T, x *pair, l []api.Change, want ...api.Change) {
	t.Helper()
	got, e := x.g.Set(l)
	if e != api.OK || !sameChanges(got, want) {
		t.Errorf("set of %s: error %d and %s, not %s", short(l), e, short(got), short(want))
	}
	x.r.set(l)
	x.check(t)
}

// P15.2: the examples of the chapter.
func TestExamples(t *testing.T) {
	x := made(t, api.GrTotal, "a")
	wantSet(t, x, []api.Change{put(2, "a", "x", "b", "1"), put(3, "a", "x", "b", "2")}, put(5, "a", "x"))
	wantSet(t, x, []api.Change{gone("a", "x", "b", "1")}, put(3, "a", "x"))
	if v := x.g.Vector(); !sample.Same(v, []api.Result{result(3, "a", "x")}) {
		t.Error(v)
	}
	wantSet(t, x, []api.Change{put(3, "a", "x", "b", "2")})
}

// P15.2: what Set returns, for each function.
func TestSet(t *testing.T) {
	first := []api.Change{
		put(7, "aa", "y"), put(100), put(5, "a", "x", "b", "2"), putOver("a", "x", "c", "1"), put(math.MaxInt64, "a", "y"), put(1, "a", "y", "b", "2"), put(1, "a", "x", "b", "1"),
	}
	second := []api.Change{gone("a", "x", "c", "1"), gone("a", "y", "b", "2"), gone("aa", "y"), gone("a", "z"), put(100), put(8, "b", "1"), put(-2, "a", "xx")}
	for _, c := range []struct {
		fn            int
		names         []string
		first, second []api.Change
	}{
		{api.GrTotal, []string{"a"}, []api.Change{put(107), putOver("a", "x"), putOver("a", "y")},
			[]api.Change{put(108), put(6, "a", "x"), put(-2, "a", "xx"), put(math.MaxInt64, "a", "y")}},
		{api.GrMany, []string{"a"}, []api.Change{put(2), put(3, "a", "x"), put(2, "a", "y")},
			[]api.Change{put(2, "a", "x"), put(1, "a", "xx"), put(1, "a", "y")}},
		{api.GrLeast, []string{"a"}, []api.Change{put(7), putOver("a", "x"), put(1, "a", "y")},
			[]api.Change{put(8), put(1, "a", "x"), put(-2, "a", "xx"), put(math.MaxInt64, "a", "y")}},
		{api.GrMost, []string{"a"}, []api.Change{put(100), putOver("a", "x"), put(math.MaxInt64, "a", "y")},
			[]api.Change{put(5, "a", "x"), put(-2, "a", "xx")}},
		{api.GrTotal, []string{"aa", "b"}, []api.Change{putOver(), put(7, "aa", "y"), put(1, "b", "1"), put(6, "b", "2")},
			[]api.Change{gone("aa", "y"), put(9, "b", "1"), put(5, "b", "2")}},
		{api.GrTotal, nil, []api.Change{putOver()}, nil},
		{api.GrMany, nil, []api.Change{put(7)}, []api.Change{put(6)}},
		{api.GrLeast, []string{"d"}, []api.Change{putOver()}, []api.Change{put(-2)}},
	} {
		x := made(t, c.fn, c.names...)
		wantSet(t, x, first, c.first...)
		wantSet(t, x, second, c.second...)
		wantSet(t, x, second)
		wantSet(t, x, nil)
		wantSet(t, x, []api.Change{})
	}
}

// P15.2: changes of the same labels are applied in their order.
func TestSetOrder(t *testing.T) {
	x := made(t, api.GrTotal, "a")
	wantSet(t, x, []api.Change{gone("a", "x"), put(1, "a", "x"), put(2, "a", "x")}, put(2, "a", "x"))
	wantSet(t, x, []api.Change{put(2, "a", "x"), put(1, "a", "x")}, put(1, "a", "x"))
	wantSet(t, x, []api.Change{gone("a", "x"), put(1, "a", "x")})
	wantSet(t, x, []api.Change{putOver("a", "x"), put(5, "a", "x"), put(1, "a", "x")})
	wantSet(t, x, []api.Change{put(5, "a", "x", "b", "y"), gone("a", "x", "b", "y"), gone("a", "x", "b", "y")})
	wantSet(t, x, []api.Change{put(1, "a", "x", "b", "y"), gone("a", "x")})
	wantSet(t, x, []api.Change{put(4, "a", "x", "b", "y"), gone("a", "x", "b", "y")}, gone("a", "x"))
	wantSet(t, x, []api.Change{gone("a", "x", "b", "y"), gone()})
	wantSet(t, x, []api.Change{putOver(), gone()})
}

// P15.2: values that are over, and sums that are, leave again.
func TestSetOver(t *testing.T) {
	const most, least = math.MaxInt64, math.MinInt64
	for _, fn := range functions() {
		x := made(t, fn, "a")
		for _, n := range []int64{most, 1, most, most, 0, least, least, least} {
			x.set(t, put(n, "b", strconv.Itoa(len(x.r.in))))
			x.check(t)
		}
		for i := range 8 {
			x.set(t, putOver("b", strconv.Itoa(i)))
			x.check(t)
			x.set(t, putOver("c", strconv.Itoa(i)))
			x.check(t)
		}
		for i := range 8 {
			x.set(t, put(least, "b", strconv.Itoa(i)), put(most, "c", strconv.Itoa(i)))
			x.check(t)
		}
		for i := range 7 {
			x.set(t, gone("b", strconv.Itoa(i)), gone("c", strconv.Itoa(i+1)))
			x.check(t)
		}
		if want := map[int]int64{api.GrTotal: -1, api.GrMany: 2, api.GrLeast: least, api.GrMost: most}[fn]; !sample.Same(x.g.Vector(), []api.Result{result(want)}) {
			t.Errorf("%d: %v", fn, x.g.Vector())
		}
	}
	x := made(t, api.GrTotal)
	wantSet(t, x, []api.Change{put(most, "a", "x")}, put(most))
	wantSet(t, x, []api.Change{put(1, "a", "y")}, putOver())
	wantSet(t, x, []api.Change{put(2, "a", "y")})
	wantSet(t, x, []api.Change{put(-1, "a", "y")}, put(most-1))
	wantSet(t, x, []api.Change{putOver("a", "y")}, putOver())
	wantSet(t, x, []api.Change{gone("a", "y")}, put(most))
}

// wantSetError checks an error of Set, beside which nothing changes.
func wantSetError(t *testing.T, x *pair, l []api.Change, want api.Errno) {
	t.Helper()
	if got, e := x.g.Set(l); e != want || len(got) != 0 {
		t.Errorf("set of %s: error %d, not %d, and %s", short(l), e, want, short(got))
	}
}

// P15.2: the errors of Set, and which one comes first: the group stays as it
// was.
func TestSetErrors(t *testing.T) {
	v := []api.Result{result(1), over("a", "x"), result(3, "a", "x", "b", "y")}
	for _, fn := range functions() {
		for _, x := range []*pair{made(t, fn, "a"), filled(t, fn, []string{"a"}, v...)} {
			for _, w := range wrongs() {
				wantSetError(t, x, []api.Change{w.c}, w.want)
				wantSetError(t, x, []api.Change{put(7), gone("a", "x"), w.c, put(8, "b", "1")}, w.want)
				for _, y := range wrongs()[:20] {
					wantSetError(t, x, []api.Change{put(7), w.c, gone(), y.c}, w.want)
				}
			}
			x.check(t)
		}
	}
	x := filled(t, api.GrMost, []string{"b"}, many(4096)...)
	for _, w := range wrongs() {
		wantSetError(t, x, []api.Change{put(7), put(8, "c", "x"), w.c}, w.want)
	}
	x.check(t)
}

// P15.2: as many results as there may be, and more.
func TestSetLong(t *testing.T) {
	all := refChanges(nil, many(4096))
	for _, fn := range functions() {
		x := made(t, fn, "b")
		wantSetError(t, x, refChanges(nil, many(4097)), api.ErrLong)
		x.check(t)
		x.set(t, slices.Concat(all, all)...)
		x.check(t)
		for _, l := range [][]api.Change{
			{put(1)}, {gone("a", "x"), put(1)}, {all[0], putOver("b", "a"), all[1]}, {gone("a", "10000", "b", "a"), put(1), put(2, "c", "x")},
			refChanges(nil, many(4097)), slices.Concat(refChanges(many(4096), nil), refChanges(nil, many(4097))),
		} {
			wantSetError(t, x, l, api.ErrLong)
		}
		x.check(t)
		// It is the results in the end that have a limit, not those in between.
		x.set(t, put(1), gone())
		x.set(t, put(1), put(2, "c", "x"), gone("a", "10000", "b", "a"), put(3), gone("a", "10001", "b", "b"))
		x.check(t)
		wantSetError(t, x, []api.Change{put(5), put(6, "a", "10000", "b", "a")}, api.ErrLong)
		x.set(t, gone("a", "10004", "b", "e"), put(6, "a", "10000", "b", "a"), put(9))
		x.check(t)
		x.set(t, refChanges(x.r.in, nil)...)
		x.check(t)
	}
}

// P15.2: as many sets of labels as there may be.
func TestSetMany(t *testing.T) {
	v := many(4096)
	for _, fn := range functions() {
		x := filled(t, fn, []string{"a", "b"}, v...)
		x.check(t)
		x.set(t, gone("a", "12048", "b", "d"), putOver("a", "14095", "b", "a"), put(-9, "c", "x"))
		x.check(t)
		x.set(t, refChanges(x.r.in, v[7:9])...)
		x.check(t)
	}
}

// P15.2: labels at their limits, and texts with any bytes.
func TestSetLabels(t *testing.T) {
	long, name := strings.Repeat("\x00", 64), strings.Repeat("_", 24)
	texts := []string{"\x00", "\x00\x00", "\x00\x01", "\x01", "\x01\x00", "\x02", "a", "a\x00", "a\x01", "ab", "b", "\xff", "\xff\x00", long, long[1:], long[1:] + "\x01"}
	for _, fn := range functions() {
		for _, names := range [][]string{nil, {name}, {name, "a"}, {name, "a", "b"}, {"a"}, {"a", "b"}, {"b"}} {
			x := made(t, fn, names...)
			for i, s := range texts {
				var l []api.Change
				for j, u := range texts {
					n := int64(i*j%17 - 3)
					l = append(l, put(n, "a", s, "b", u), put(n+1, name, s, "b", u), put(n-1, name, s, "a", u), put(n, "ab", s))
				}
				x.set(t, l...)
			}
			x.set(t, api.Change{Labels: eight()})
			x.check(t)
			for _, s := range texts[8:] {
				x.set(t, gone("a", s, "b", "\x00"), gone(name, "\x00", "b", s), gone("ab", s))
			}
			x.check(t)
		}
	}
}

// Rule 7: a nil pointer, a zero value and a copy are no groups.
func TestInvalid(t *testing.T) {
	for _, fn := range functions() {
		x := filled(t, fn, []string{"a"}, result(3), result(5, "a", "x"))
		copied := *x.g
		for name, g := range map[string]*group.Group{"nil": nil, "zero": {}, "copy": &copied} {
			for _, l := range [][]api.Change{nil, {put(1)}, {gone()}, {putOver("A", "x")}, refChanges(nil, many(4097))} {
				if c, e := g.Set(l); e != api.ErrNil || len(c) != 0 {
					t.Errorf("%s: set: error %d and %v", name, e, c)
				}
			}
			if g.Len() != 0 || len(g.In()) != 0 || len(g.Vector()) != 0 || len(g.Bytes()) != 0 {
				t.Errorf("%s: %d results %v, vector %v, bytes %v", name, g.Len(), g.In(), g.Vector(), g.Bytes())
			}
		}
		x.check(t)
		x.set(t, gone("a", "x"))
		x.check(t)
	}
}

// Rule 6: groups do not depend on each other.
func TestApart(t *testing.T) {
	for _, fn := range functions() {
		names := []string{"a"}
		x, y := filled(t, fn, names, many(20)...), filled(t, fn, names, many(20)...)
		z := &pair{read(t, string(x.g.Bytes())), x.r}
		x.set(t, gone("a", "10003", "b", "d"))
		y.set(t, put(99, "a", "10003", "b", "d"))
		z.set(t, putOver("a", "10003"))
		for _, p := range []*pair{x, y, z} {
			p.check(t)
		}
	}
}

// Rule 3: what is returned is new memory, and stays as it was; what is given is
// neither changed nor kept.
func TestMemory(t *testing.T) {
	d := dice(3)
	for range 300 {
		names := d.names()
		given := roomy(names, "spare", "spare")
		g, _ := group.New(1+d.of(4), given)
		if !slices.Equal(given[:cap(given)], append(slices.Clone(names), "spare", "spare")) {
			t.Fatalf("the names changed: %q", given[:cap(given)])
		}
		x := &pair{read(t, string(g.Bytes())), reference{names: names}}
		x.g, x.r.fn = g, int(g.Bytes()[1])
		spoil(given, "z")
		for range 4 {
			x.setMemory(t, d.changes(12))
			x.checkMemory(t)
			x.again(t)
			x.checkMemory(t)
		}
	}
}

// setMemory sets changes, and checks that they are neither changed nor kept, and
// that what is returned is new.
func (x *pair) setMemory(t *testing.T, l []api.Change) {
	t.Helper()
	given := roomyChanges(l)
	before := dump(given, ofChange)
	got, e := x.g.Set(given)
	want, _ := x.r.set(l)
	if e != api.OK || !sameChanges(got, want) || dump(given, ofChange) != before {
		t.Fatalf("error %d and %s, not %s, or the changes changed", e, short(got), short(want))
	}
	for i := range given {
		spoil(given[i].Labels, noLabel())
	}
	if !sameChanges(got, want) {
		t.Fatal("the result shares memory with the changes")
	}
	spoil(given, putOver("spoilt", "x"))
	apartChanges(t, got)
	x.check(t)
}

// checkMemory checks that nothing that was returned or given is kept.
func (x *pair) checkMemory(t *testing.T) {
	t.Helper()
	v, again, in, sameIn, b := x.g.Vector(), x.g.Vector(), x.g.In(), x.g.In(), x.g.Bytes()
	given := []byte(roomy(b, 9, 9))
	g, e := group.Read(given)
	if e != api.OK || string(given[:cap(given)]) != x.r.bytes()+"\x09\x09" {
		t.Fatalf("the bytes changed, or error %d", e)
	}
	apartResults(t, v)
	apartResults(t, in)
	spoil(b, 255)
	spoil(given, 255)
	if !sample.Same(again, x.r.vector()) || !sample.Same(sameIn, x.r.in) {
		t.Fatal("the other results changed")
	}
	x.check(t)
	other := pair{g, x.r}
	other.check(t)
	before, beforeIn := x.r.vector(), copyOf(x.r.in)
	other.set(t, put(1, "a", "y"), gone("a", "x"), putOver())
	other.check(t)
	if !sample.Same(again, before) || !sample.Same(sameIn, beforeIn) {
		t.Fatal("the other results changed later")
	}
	x.check(t)
}
