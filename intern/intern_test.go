package intern_test

import (
	"math"
	"slices"
	"strconv"
	"strings"
	"testing"

	"waterwheel/api"
	"waterwheel/intern"
)

// limits returns valid series that are at a limit.
func limits() []api.Series {
	long, wide := strings.Repeat("m", 24), strings.Repeat("\x00", 64)
	all := series(long)
	for i := range 8 {
		all.Labels = append(all.Labels, api.Label{Name: strings.Repeat("n", 23) + strconv.Itoa(i), Text: wide})
	}
	return []api.Series{
		series("a"),
		series("_"),
		series("_0"),
		series(long),
		series("a", "a", "a"),
		series("a", "_", "\xff"),
		series("a", "a", wide),
		series("a", long, wide),
		series("a", "a", "\"\\\n", "b", "{}"),
		all,
		{Metric: long, Labels: all.Labels[:7]},
		{Metric: long, Labels: all.Labels[1:]},
	}
}

// A refused series is not valid.
type refused struct {
	s api.Series
	e api.Errno
}

// invalids returns series that are not valid, with the error of CheckSeries.
func invalids() []refused {
	nine := series("a")
	for i := range 9 {
		nine.Labels = append(nine.Labels, api.Label{Name: "n" + strconv.Itoa(i), Text: "x"})
	}
	return []refused{
		{series(""), api.ErrArg},
		{series("1"), api.ErrArg},
		{series("A"), api.ErrArg},
		{series("a b"), api.ErrArg},
		{series(strings.Repeat("a", 25)), api.ErrArg},
		{series("a", "", "x"), api.ErrArg},
		{series("a", "a", ""), api.ErrArg},
		{series("a", "1", "x"), api.ErrArg},
		{series("a", strings.Repeat("a", 25), "x"), api.ErrArg},
		{series("a", "a", strings.Repeat("x", 65)), api.ErrArg},
		{series("a", "b", "x", "a", "x"), api.ErrArg},
		{series("a", "a", "x", "a", "x"), api.ErrArg},
		{nine, api.ErrLong},
		{api.Series{Metric: "a", Labels: make([]api.Label, 9)}, api.ErrLong},
		{api.Series{Metric: "1", Labels: nine.Labels}, api.ErrArg},
	}
}

// P12.1, P12.2: the examples of the chapter.
func TestExamples(t *testing.T) {
	x := intern.New()
	for i, s := range []api.Series{series("cpu", "a", "x"), series("mem"), series("cpu", "a", "x")} {
		if id, e := x.Put(s); id != []int{1, 2, 1}[i] || e != api.OK {
			t.Errorf("put %d: %d, error %d", i, id, e)
		}
	}
	if l := x.Takes(window("cpu")); !slices.Equal(l, []int{1}) {
		t.Errorf("takes of sum(cpu[1]): %v", l)
	}
	if l := x.Takes(window("cpu", not("a", "x"))); len(l) != 0 {
		t.Errorf(`takes of sum(cpu{a!="x"}[1]): %v`, l)
	}
	check(t, x, reference{series("cpu", "a", "x"), series("mem")})
}

// P12.1, P12.2: a new table has no series.
func TestNew(t *testing.T) {
	x := intern.New()
	check(t, x, nil)
	checkWith(t, x, nil, []string{"", "a"}, []string{"", "x"})
	checkTakes(t, x, nil, window("a"))
	checkTakes(t, x, nil, window("a", not("a", "x")))
	if b := x.Bytes(); !slices.Equal(b, []byte{0}) {
		t.Errorf("bytes: %v", b)
	}
	if id, is := x.Find(series("a")); id != 0 || is {
		t.Errorf("find: %d %t", id, is)
	}
}

// P12.1, P12.3: series that look like chance, put more than once, keep their
// numbers; those that were not put are not found.
func TestPut(t *testing.T) {
	metrics, names, texts := []string{"a", "b"}, []string{"a", "b", "c"}, []string{"", "a", "b", "\x01a"}
	for seed := range 30 {
		d := dice(seed)
		x, r := intern.New(), reference{}
		for range 120 {
			s := d.series(metrics, names, texts)
			id, is := r.find(s)
			if got, there := x.Find(s); got != id || there != is {
				t.Fatalf("find of %q: %d %t, not %d %t", s, got, there, id, is)
			}
			id, e := r.put(s)
			if got, err := x.Put(s); got != id || err != e {
				t.Fatalf("put of %q: %d, error %d, not %d", s, got, err, id)
			}
			check(t, x, r)
		}
	}
}

// P12.1: series that differ little are different ones.
func TestDifferent(t *testing.T) {
	l := []api.Series{
		series("ab"),
		series("a"),
		series("b"),
		series("a", "b", "c"),
		series("a", "b", "c", "d", "e"),
		series("a", "b", "c\x01d\x01e"),
		series("a", "bc", "d"),
		series("a", "b", "cd"),
		series("a", "b", "C"),
		series("a", "d", "e"),
		series("b", "b", "c"),
		series("a", "c", "b"),
		series("a", "b", "c\x00"),
	}
	check(t, filled(t, l...), l)
	slices.Reverse(l)
	check(t, filled(t, l...), l)
}

// P12.1: series at their limits, and that no labels are the same as an empty
// list of them.
func TestPutLimits(t *testing.T) {
	x := filled(t, limits()...)
	check(t, x, limits())
	for i, want := range []int{1, 4} {
		s := api.Series{Metric: []string{"a", strings.Repeat("m", 24)}[i], Labels: []api.Label{}}
		if id, e := x.Put(s); id != want || e != api.OK {
			t.Errorf("put of %q: %d, error %d", s, id, e)
		}
		if id, is := x.Find(s); id != want || !is {
			t.Errorf("find of %q: %d %t", s, id, is)
		}
	}
	check(t, x, limits())
}

// P12.1: a series that is not valid is refused, and changes nothing; it is
// never found.
func TestPutErrors(t *testing.T) {
	for _, l := range [][]api.Series{nil, {series("a")}, limits(), many(api.MaxSeries)} {
		x := filled(t, l...)
		for _, c := range invalids() {
			if id, e := x.Put(c.s); id != 0 || e != c.e {
				t.Errorf("put of %q: %d, error %d, not %d", c.s, id, e, c.e)
			}
			if id, is := x.Find(c.s); id != 0 || is {
				t.Errorf("find of %q: %d %t", c.s, id, is)
			}
		}
		check(t, x, l)
	}
}

// many returns n different series.
func many(n int) (l []api.Series) {
	for i := range n {
		l = append(l, series("m"+strconv.Itoa(i%3), "a", strconv.Itoa(i), "b", strconv.Itoa(i%7)))
	}
	return l
}

// P12.1: a table has at most MaxSeries series; the number of one that is there
// is returned also by a full table.
func TestFull(t *testing.T) {
	l := many(api.MaxSeries)
	x := filled(t, l[:api.MaxSeries-1]...)
	check(t, x, l[:api.MaxSeries-1])
	if id, e := x.Put(l[api.MaxSeries-1]); id != 1024 || e != api.OK {
		t.Fatalf("put of the last one: %d, error %d", id, e)
	}
	for range 2 {
		check(t, x, l)
		for _, s := range []api.Series{series("a"), series("m0"), series("m0", "a", "1024", "b", "2")} {
			if id, e := x.Put(s); id != 0 || e != api.ErrLong {
				t.Errorf("put of %q: %d, error %d", s, id, e)
			}
			if id, is := x.Find(s); id != 0 || is {
				t.Errorf("find of %q: %d %t", s, id, is)
			}
		}
		for i, s := range l {
			if id, e := x.Put(s); id != i+1 || e != api.OK {
				t.Fatalf("second put of %q: %d, error %d", s, id, e)
			}
		}
	}
	names, texts := []string{"", "a", "b", "c"}, []string{"", "0", "6", "7", "1023", "1024"}
	checkWith(t, x, l, names, texts)
	for _, metric := range []string{"m0", "m1", "m2", "m3"} {
		checkTakes(t, x, l, window(metric))
		checkTakes(t, x, l, window(metric, is("b", "6")))
		checkTakes(t, x, l, window(metric, not("b", "6"), not("a", "1023")))
	}
}

// P12.1: which numbers have a series.
func TestSeries(t *testing.T) {
	x := filled(t, series("a", "b", "c"), series("d"))
	for id, want := range map[int]bool{
		math.MinInt64: false,
		-2:            false,
		-1:            false,
		0:             false,
		1:             true,
		2:             true,
		3:             false,
		1 << 32:       false,
		1<<32 + 1:     false,
		math.MaxInt64: false,
	} {
		s, is := x.Series(id)
		if is != want || !is && (s.Metric != "" || len(s.Labels) != 0) {
			t.Errorf("series %d: %q %t", id, s, is)
		}
	}
}

// Rule 7: a nil pointer, a zero value and a copy are no tables.
func TestInvalid(t *testing.T) {
	made := filled(t, series("a", "b", "c"), series("a"))
	copied := *made
	for name, x := range map[string]*intern.Table{"nil": nil, "zero": {}, "copy": &copied} {
		for _, s := range []api.Series{series("a"), series("z"), series(""), {Labels: make([]api.Label, 9)}} {
			if id, e := x.Put(s); id != 0 || e != api.ErrNil {
				t.Errorf("%s: put of %q: %d, error %d", name, s, id, e)
			}
			if id, is := x.Find(s); id != 0 || is {
				t.Errorf("%s: find of %q: %d %t", name, s, id, is)
			}
		}
		for id := -1; id < 4; id++ {
			if s, is := x.Series(id); is || s.Metric != "" || len(s.Labels) != 0 {
				t.Errorf("%s: series %d: %q %t", name, id, s, is)
			}
		}
		checkWith(t, x, nil, []string{"", "b"}, []string{"", "c"})
		for _, e := range []api.Expr{{}, window(""), window("a"), window("a", is("b", "c")), window("a", is("b", "")), window("a", not("b", ""))} {
			if l := x.Takes(e); len(l) != 0 {
				t.Errorf("%s: takes of %q %v: %v", name, e.Metric, e.Match, l)
			}
		}
		if x.Len() != 0 || len(x.Bytes()) != 0 {
			t.Errorf("%s: %d series, bytes %v", name, x.Len(), x.Bytes())
		}
	}
	check(t, made, reference{series("a", "b", "c"), series("a")})
}

// Rule 6: two tables do not depend on each other.
func TestApart(t *testing.T) {
	x, y := filled(t, series("a"), series("b", "c", "d")), filled(t, series("b", "c", "d"))
	z, e := intern.Read(x.Bytes())
	if e != api.OK {
		t.Fatalf("read: error %d", e)
	}
	x.Put(series("x"))
	y.Put(series("y"))
	z.Put(series("z"))
	check(t, x, reference{series("a"), series("b", "c", "d"), series("x")})
	check(t, y, reference{series("b", "c", "d"), series("y")})
	check(t, z, reference{series("a"), series("b", "c", "d"), series("z")})
}
