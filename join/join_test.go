package join_test

import (
	"math"
	"slices"
	"strconv"
	"strings"
	"testing"

	"waterwheel/api"
	"waterwheel/join"
	"waterwheel/sample"
)

// noNames has lists that are not valid Names.
func noNames() [][]string {
	return [][]string{
		{""}, {"A"}, {"1"}, {"a", ""}, {"", "a"}, {"a", "a"}, {"b", "a"}, {"aa", "a"}, {"a", "c", "b"}, {"a-b"},
		{strings.Repeat("a", 25)}, strings.Split("abcdefghi", ""), slices.Repeat([]string{""}, 100),
	}
}

// someNames has lists that are valid Names.
func someNames() [][]string {
	return [][]string{nil, {}, {"a"}, {"a", "aa", "b"}, {"_", "a0"}, {strings.Repeat("z", 24)}, strings.Split("abcdefgh", "")}
}

// noOperators has numbers that are no operators of a join, comparisons included.
func noOperators() []int {
	return []int{math.MinInt, -1, 0, api.OpLess, api.OpMost, api.OpMore, api.OpLeast, api.OpEq, api.OpNe, 10, 255, 256 + 1, 1<<32 + 1, math.MaxInt}
}

// P16.1: New.
func TestNew(t *testing.T) {
	for _, op := range operators() {
		for _, names := range someNames() {
			made(t, op, names...).check(t)
		}
		for _, names := range noNames() {
			if j, e := join.New(op, names); j != nil || e != api.ErrArg {
				t.Errorf("new of %d, %q: a join %t, error %d", op, names, j != nil, e)
			}
		}
	}
	for _, op := range noOperators() {
		for _, names := range slices.Concat(someNames(), noNames()) {
			if j, e := join.New(op, names); j != nil || e != api.ErrArg {
				t.Errorf("new of %d, %q: a join %t, error %d", op, names, j != nil, e)
			}
		}
	}
}

// wantSet checks what Set returns, as pair.set does, and all that the join then
// has.
func wantSet(t *testing.T, x *pair, side int, l []api.Change, want ...api.Change) {
	t.Helper()
	got, e := x.j.Set(side, l)
	if e != api.OK || !sameChanges(got, want) {
		t.Errorf("set of %d, %s: error %d and %s, not %s", side, short(l), e, short(got), short(want))
	}
	x.r.set(side, l)
	x.check(t)
}

// wantMany checks what Many returns.
func wantMany(t *testing.T, x *pair, want ...api.Result) {
	t.Helper()
	if v := x.j.Many(); !sample.Same(v, want) {
		t.Errorf("%s, not %s", short(v), short(want))
	}
}

// P16.1, P16.2: the examples of the chapter.
func TestExamples(t *testing.T) {
	x := made(t, api.OpSub, "a")
	wantSet(t, x, 1, []api.Change{put(5, "a", "x", "b", "1")})
	wantSet(t, x, 2, []api.Change{put(2, "a", "x")}, put(3, "a", "x"))
	wantMany(t, x)
	wantSet(t, x, 1, []api.Change{put(9, "a", "x", "b", "2")}, gone("a", "x"))
	wantMany(t, x, result(3, "a", "x"))
	wantSet(t, x, 1, []api.Change{gone("a", "x", "b", "1")}, put(7, "a", "x"))
	wantMany(t, x)
	if v := x.j.Vector(); !sample.Same(v, []api.Result{result(7, "a", "x")}) {
		t.Error(v)
	}
}

// P16.1, P16.2: what Set returns, and Many, for each operator.
func TestSet(t *testing.T) {
	a := []api.Change{
		put(7, "aa", "y"), put(5, "a", "x", "b", "2"), putOver("a", "y"), put(math.MaxInt64, "a", "z", "c", "1"), put(1, "a", "xx", "b", "2"), put(2, "a", "xx", "c", "1"), put(10, "b", "2"),
	}
	b := []api.Change{put(-3, "a", "z"), put(4, "a", "x"), put(8, "a", "y", "b", "2"), put(3, "a", "xx"), put(1, "a", "u"), put(6, "aa", "y", "c", "1")}
	second := []api.Change{gone("a", "xx", "b", "2"), gone("a", "v"), put(3, "a", "y"), put(2, "a", "z", "c", "2"), put(5, "a", "x", "b", "2"), gone("b", "2")}
	third := []api.Change{put(3, "c", "1"), gone("aa", "y", "c", "1"), gone("a", "x"), put(4, "a", "x", "c", "2"), put(5, "a", "z"), put(6, "a", "y", "b", "2"), put(7, "a", "y", "c", "1")}
	for op, want := range map[int][3][]api.Change{
		api.OpAdd: {
			{put(9, "a", "x"), putOver("a", "y"), put(math.MaxInt64-3, "a", "z")},
			{put(13), put(5, "a", "xx"), put(11, "a", "y"), gone("a", "z")},
			{put(10), gone("a", "y")},
		},
		api.OpSub: {
			{put(1, "a", "x"), putOver("a", "y"), putOver("a", "z")},
			{put(1), put(-1, "a", "xx"), put(-5, "a", "y"), gone("a", "z")},
			{put(4), gone("a", "y")},
		},
		api.OpMul: {
			{put(20, "a", "x"), putOver("a", "y"), putOver("a", "z")},
			{put(42), put(6, "a", "xx"), put(24, "a", "y"), gone("a", "z")},
			{put(21), gone("a", "y")},
		},
	} {
		x := made(t, op, "a")
		wantSet(t, x, 1, a)
		wantMany(t, x, result(2), result(2, "a", "xx"))
		wantSet(t, x, 2, b, want[0]...)
		wantMany(t, x, result(3), result(3, "a", "xx"))
		wantSet(t, x, 1, second, want[1]...)
		wantMany(t, x, result(3, "a", "z"))
		wantSet(t, x, 1, second)
		wantSet(t, x, 2, third, want[2]...)
		wantMany(t, x, result(3, "a", "y"), result(3, "a", "z"))
		for side := 1; side <= 2; side++ {
			wantSet(t, x, side, nil)
			wantSet(t, x, side, []api.Change{})
		}
		wantSet(t, x, 2, third)
	}
}

// P16.1: without names, and with names that no result has, all results have the
// same labels.
func TestSetWithoutNames(t *testing.T) {
	for _, names := range [][]string{nil, {}, {"d"}, {"_", "d", "e"}} {
		x := made(t, api.OpMul, names...)
		wantSet(t, x, 1, []api.Change{put(2, "a", "x")})
		wantSet(t, x, 2, []api.Change{put(3, "b", "y")}, put(6))
		wantSet(t, x, 2, []api.Change{put(4, "b", "z")}, gone())
		wantMany(t, x, result(3))
		wantSet(t, x, 1, []api.Change{put(5)})
		wantMany(t, x, result(4))
		wantSet(t, x, 2, []api.Change{gone("b", "y")})
		wantMany(t, x, result(3))
		wantSet(t, x, 1, []api.Change{gone("a", "x")}, put(20))
		wantSet(t, x, 1, []api.Change{gone()}, gone())
		wantMany(t, x)
	}
}

// P16.1: changes of the same labels are applied in their order.
func TestSetOrder(t *testing.T) {
	for side := 1; side <= 2; side++ {
		x := made(t, api.OpAdd, "a")
		x.set(t, 3-side, put(10, "a", "x"), put(100))
		wantSet(t, x, side, []api.Change{gone("a", "x"), put(1, "a", "x"), put(2, "a", "x")}, put(12, "a", "x"))
		wantSet(t, x, side, []api.Change{put(2, "a", "x"), put(1, "a", "x")}, put(11, "a", "x"))
		wantSet(t, x, side, []api.Change{gone("a", "x"), put(1, "a", "x")})
		wantSet(t, x, side, []api.Change{putOver("a", "x"), put(5, "a", "x"), put(1, "a", "x")})
		wantSet(t, x, side, []api.Change{put(5, "a", "x", "b", "y"), gone("a", "x", "b", "y"), gone("a", "x", "b", "y")})
		// Another result takes the place of one.
		wantSet(t, x, side, []api.Change{put(1, "a", "x", "b", "y"), gone("a", "x")})
		wantSet(t, x, side, []api.Change{put(4, "a", "x"), gone("a", "x", "b", "y")}, put(14, "a", "x"))
		wantSet(t, x, side, []api.Change{put(4, "a", "x", "b", "y"), gone("a", "x", "b", "y"), gone("a", "x")}, gone("a", "x"))
		wantSet(t, x, side, []api.Change{gone("a", "x", "b", "y"), gone()})
		wantSet(t, x, side, []api.Change{putOver(), gone()})
	}
}

// P16.1: values that are over, and those of operators that are, leave again.
func TestSetOver(t *testing.T) {
	const most, least = math.MaxInt64, math.MinInt64
	values := []api.Value{{N: most}, {N: least}, {Over: true}, {}, {N: 1}, {N: -1}, {N: 1 << 32}, {N: -1 << 31}, {N: most - 1}, {N: least + 1}}
	for _, op := range operators() {
		x := made(t, op, "a")
		for _, v := range values {
			x.set(t, 1, api.Change{Labels: list("a", "x"), Value: v})
			for _, w := range values {
				x.set(t, 2, api.Change{Labels: list("a", "x", "b", "1"), Value: w})
				x.check(t)
			}
		}
	}
	x := filled(t, api.OpAdd, nil, []api.Result{result(most)}, []api.Result{over()})
	wantSet(t, x, 2, []api.Change{put(0)}, put(most))
	wantSet(t, x, 2, []api.Change{put(1)}, putOver())
	wantSet(t, x, 1, []api.Change{putOver()})
	wantSet(t, x, 2, []api.Change{put(-1)})
	wantSet(t, x, 1, []api.Change{put(most)}, put(most-1))
	wantSet(t, x, 1, []api.Change{put(1, "b", "x")}, gone())
	wantSet(t, x, 1, []api.Change{putOver()})
	wantSet(t, x, 1, []api.Change{gone("b", "x")}, putOver())
}

// P16.3: a set of labels that a side has more than once has no output, until
// only one of them is left.
func TestSetMoreThanOnce(t *testing.T) {
	for side := 1; side <= 2; side++ {
		x := made(t, api.OpAdd, "a")
		x.set(t, 3-side, put(100, "a", "x"))
		wantSet(t, x, side, []api.Change{put(0, "a", "x", "b", "0")}, put(100, "a", "x"))
		for i := 1; i < 50; i++ {
			var want []api.Change
			if i == 1 {
				want = []api.Change{gone("a", "x")}
			}
			wantSet(t, x, side, []api.Change{put(int64(i), "a", "x", "b", strconv.Itoa(i))}, want...)
			wantMany(t, x, result(int64(i+2), "a", "x"))
		}
		for i := range 49 {
			var want []api.Change
			if i == 48 {
				want = []api.Change{put(149, "a", "x")}
			}
			wantSet(t, x, side, []api.Change{gone("a", "x", "b", strconv.Itoa(i))}, want...)
		}
		wantMany(t, x)
	}
}

// eight are as many labels as there may be.
func eight() []api.Label {
	return list("a", "x", "b", "x", "c", "x", "d", "x", "e", "x", "f", "x", "g", "x", "h", "x")
}

// A wrong is a change that is not valid, and the error of group.CheckChange.
type wrong struct {
	c    api.Change
	want api.Errno
}

// wrongs has changes that are not valid.
func wrongs() (l []wrong) {
	nine := append(eight(), api.Label{Name: "i", Text: "x"})
	for _, labels := range [][]api.Label{
		list("A", "x"), list("", "x"), list(strings.Repeat("a", 25), "x"), list("a", ""), list("a", strings.Repeat("x", 65)),
		list("b", "x", "a", "x"), list("a", "x", "a", "x"), list("a", "x", "a", "y"), list("a", "x", "b", ""), list("b", "x", "aa", "x"),
	} {
		l = append(l, wrong{api.Change{Labels: labels}, api.ErrArg}, wrong{api.Change{Labels: labels, Gone: true}, api.ErrArg})
	}
	for _, labels := range [][]api.Label{nine, make([]api.Label, 9), slices.Repeat(list("A", "x"), 100)} {
		l = append(l, wrong{api.Change{Labels: labels}, api.ErrLong}, wrong{api.Change{Labels: labels, Value: api.Value{N: 1}, Gone: true}, api.ErrLong})
	}
	for _, labels := range [][]api.Label{nil, list("a", "x"), eight()} {
		l = append(l, wrong{api.Change{Labels: labels, Value: api.Value{N: 1, Over: true}}, api.ErrArg},
			wrong{api.Change{Labels: labels, Value: api.Value{N: -1}, Gone: true}, api.ErrArg},
			wrong{api.Change{Labels: labels, Value: api.Value{Over: true}, Gone: true}, api.ErrArg})
	}
	return l
}

// wantSetError checks an error of Set, beside which nothing is returned.
func wantSetError(t *testing.T, x *pair, side int, l []api.Change, want api.Errno) {
	t.Helper()
	if got, e := x.j.Set(side, l); e != want || len(got) != 0 {
		t.Errorf("set of %d, %s: error %d, not %d, and %s", side, short(l), e, want, short(got))
	}
}

// noSides has numbers that are no sides.
func noSides() []int {
	return []int{math.MinInt, -2, -1, 0, 3, 4, 256 + 1, 1<<32 + 1, 1<<32 + 2, math.MaxInt}
}

// P16.1: the errors of Set, and which one comes first: the join stays as it was.
func TestSetErrors(t *testing.T) {
	v := []api.Result{result(1), over("a", "x"), result(3, "a", "x", "b", "y")}
	for _, op := range operators() {
		for _, x := range []*pair{made(t, op, "a"), filled(t, op, []string{"a"}, v, v[:2]), filled(t, op, nil, v[:1], many(4096))} {
			for _, w := range wrongs() {
				for side := 1; side <= 2; side++ {
					wantSetError(t, x, side, []api.Change{w.c}, w.want)
					wantSetError(t, x, side, []api.Change{put(7), gone("a", "x"), w.c, put(8, "b", "1")}, w.want)
					wantSetError(t, x, side, append(refChanges(nil, many(40)), w.c), w.want)
				}
				for _, side := range noSides() {
					wantSetError(t, x, side, []api.Change{put(7), w.c}, api.ErrArg)
				}
				for _, y := range wrongs() {
					wantSetError(t, x, 1, []api.Change{put(7), w.c, gone(), y.c}, w.want)
				}
			}
			for _, side := range noSides() {
				for _, l := range [][]api.Change{nil, {put(1)}, {gone()}, refChanges(nil, many(4097))} {
					wantSetError(t, x, side, l, api.ErrArg)
				}
			}
			x.check(t)
		}
	}
	long := refChanges(nil, many(4097))
	for _, w := range wrongs() {
		wantSetError(t, made(t, api.OpAdd), 1, append(long, w.c), w.want)
	}
}

// P16.1: as many results of a side as there may be, and more.
func TestSetLong(t *testing.T) {
	all := refChanges(nil, many(4096))
	for side := 1; side <= 2; side++ {
		x := made(t, api.OpSub, "b")
		x.set(t, 3-side, put(5, "b", "a"), put(6, "b", "x"))
		wantSetError(t, x, side, refChanges(nil, many(4097)), api.ErrLong)
		x.check(t)
		x.set(t, side, slices.Concat(all, all)...)
		x.check(t)
		for _, l := range [][]api.Change{
			{put(1)}, {gone("a", "x"), put(1)}, {all[0], putOver("b", "a"), all[1]}, {gone("a", "10000", "b", "a"), put(1), put(2, "b", "x")},
			refChanges(nil, many(4097)), slices.Concat(refChanges(many(4096), nil), refChanges(nil, many(4097))),
		} {
			wantSetError(t, x, side, l, api.ErrLong)
		}
		x.check(t)
		// It is the results in the end that have a limit, not those in between.
		x.set(t, side, put(1), gone())
		x.set(t, side, put(1), put(2, "b", "x"), gone("a", "10000", "b", "a"), put(3), gone("a", "10001", "b", "b"))
		x.check(t)
		wantSetError(t, x, side, []api.Change{put(5), put(6, "a", "10000", "b", "a")}, api.ErrLong)
		x.set(t, side, gone("a", "10004", "b", "e"), put(6, "a", "10000", "b", "a"), put(9))
		x.check(t)
		// The other side has a limit of its own.
		x.set(t, 3-side, all[2:]...)
		x.check(t)
		wantSetError(t, x, 3-side, []api.Change{put(1)}, api.ErrLong)
		x.set(t, side, refChanges(x.r.in[side-1], nil)...)
		x.check(t)
	}
}

// P16.1, P16.2: as many pairs as there may be, and as many labels that are there
// more than once.
func TestSetMany(t *testing.T) {
	v := many(4096)
	for _, op := range operators() {
		x := filled(t, op, []string{"a", "b"}, v, v)
		if len(x.j.Vector()) != 4096 {
			t.Errorf("%d results", len(x.j.Vector()))
		}
		x.check(t)
		x.set(t, 1, gone("a", "12048", "b", "d"), putOver("a", "14095", "b", "a"), put(-9, "c", "x"))
		x.set(t, 2, refChanges(x.r.in[1], v[7:9])...)
		x.check(t)
		x.again(t)
		x.check(t)
	}
	var a, b []api.Result
	for i := range 4096 {
		text, other := strconv.Itoa(10000+i/2), strconv.Itoa(20000+i/2)
		a = append(a, result(int64(i), "a", text, "b", strconv.Itoa(i%2)))
		b = append(b, result(int64(i), "a", other, "b", strconv.Itoa(i%2)))
	}
	x := filled(t, api.OpAdd, []string{"a"}, a, b)
	if len(x.j.Many()) != 4096 {
		t.Errorf("%d labels", len(x.j.Many()))
	}
	x.check(t)
	x.set(t, 2, refChanges(b, a)...)
	x.check(t)
	x = filled(t, api.OpAdd, nil, a, b)
	wantMany(t, x, result(8192))
	x.check(t)
}

// P16.1, P16.2: labels at their limits, and texts with any bytes.
func TestSetLabels(t *testing.T) {
	long, name := strings.Repeat("\x00", 64), strings.Repeat("_", 24)
	texts := []string{"\x00", "\x00\x00", "\x00\x01", "\x01", "\x01\x00", "\x02", "a", "a\x00", "a\x01", "ab", "b", "\xff", "\xff\x00", long, long[1:], long[1:] + "\x01"}
	for _, names := range [][]string{nil, {name}, {name, "a"}, {name, "a", "ab", "b"}, {"a"}, {"a", "b"}, {"ab", "b"}} {
		x := made(t, api.OpSub, names...)
		for i, s := range texts {
			var sides [2][]api.Change
			for j, u := range texts {
				n := int64(i*j%17 - 3)
				l := []api.Change{put(n, "a", s, "b", u), put(n+1, name, s, "b", u), put(n-1, name, s, "a", u), put(n, "ab", s), {Labels: eight()}}
				sides[(i+j)%2] = append(sides[(i+j)%2], l...)
				if (i-j)%3 == 0 {
					sides[1-(i+j)%2] = append(sides[1-(i+j)%2], l[:3]...)
				}
			}
			x.set(t, 1, sides[0]...)
			x.set(t, 2, sides[1]...)
			x.check(t)
		}
		for _, s := range texts[8:] {
			x.set(t, 1, gone("a", s, "b", "\x00"), gone(name, "\x00", "b", s), gone("ab", s))
			x.set(t, 2, gone("a", "\xff", "b", s), gone(name, s, "a", "a"))
		}
		x.check(t)
	}
}

// P16.2: In of sides that there are not.
func TestInOfNoSide(t *testing.T) {
	x := filled(t, api.OpAdd, nil, []api.Result{result(1)}, []api.Result{result(2)})
	for _, side := range noSides() {
		if v := x.j.In(side); len(v) != 0 {
			t.Errorf("side %d: %v", side, v)
		}
	}
	x.check(t)
}

// Rule 7: a nil pointer, a zero value and a copy are no joins.
func TestInvalid(t *testing.T) {
	for _, op := range operators() {
		v := []api.Result{result(3), result(5, "a", "x"), result(6, "a", "x", "b", "y")}
		x := filled(t, op, []string{"a"}, v, v[1:])
		copied := *x.j
		for name, j := range map[string]*join.Join{"nil": nil, "zero": {}, "copy": &copied} {
			for _, side := range append(noSides(), 1, 2) {
				for _, l := range [][]api.Change{nil, {put(1)}, {gone()}, {putOver("A", "x")}, refChanges(nil, many(4097))} {
					if c, e := j.Set(side, l); e != api.ErrNil || len(c) != 0 {
						t.Errorf("%s: set: error %d and %v", name, e, c)
					}
				}
				if len(j.In(side)) != 0 {
					t.Errorf("%s: side %d has %v", name, side, j.In(side))
				}
			}
			if len(j.Vector()) != 0 || len(j.Many()) != 0 || len(j.Bytes()) != 0 {
				t.Errorf("%s: vector %v, many %v, bytes %v", name, j.Vector(), j.Many(), j.Bytes())
			}
		}
		x.check(t)
		x.set(t, 1, gone("a", "x"))
		x.check(t)
	}
}

// Rule 6: joins do not depend on each other.
func TestApart(t *testing.T) {
	for _, op := range operators() {
		names := []string{"a"}
		x, y := filled(t, op, names, many(20), many(15)), filled(t, op, names, many(20), many(15))
		z := &pair{read(t, string(x.j.Bytes())), x.r}
		x.set(t, 1, gone("a", "10003", "b", "d"))
		y.set(t, 2, put(99, "a", "10003", "b", "d"))
		z.set(t, 1, putOver("a", "10003"))
		for _, p := range []*pair{x, y, z} {
			p.check(t)
		}
	}
}
