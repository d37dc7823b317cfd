package intern_test

import (
	"math"
	"slices"
	"strconv"
	"strings"
	"testing"

	"waterwheel/api"
	"waterwheel/intern"
	"waterwheel/label"
)

// few returns all series of two metrics with any of three names and two texts.
func few() (l reference) {
	texts := []string{"", "x", "y"}
	for _, metric := range []string{"b", "a"} {
		for i := range 27 {
			s := series(metric)
			for j, name := range []string{"a", "b", "c"} {
				if text := texts[[]int{i % 3, i / 3 % 3, i / 9}[j]]; text != "" {
					s.Labels = append(s.Labels, api.Label{Name: name, Text: text})
				}
			}
			l = append(l, s)
		}
	}
	return l
}

// P12.2: With for each label that a series has, and others.
func TestWith(t *testing.T) {
	names := []string{"", "a", "b", "c", "d", "A", "ab", "1", "no name", strings.Repeat("a", 25)}
	texts := []string{"", "x", "y", "z", "X", "xx", "x\x00", "a", strings.Repeat("x", 64), strings.Repeat("x", 65), strings.Repeat("x", 1000)}
	x, r := intern.New(), reference{}
	for _, s := range few() {
		checkWith(t, x, r, names, texts)
		r.put(s)
		x.Put(s)
	}
	checkWith(t, x, r, names, texts)
	check(t, x, r)
}

// P12.2: With of series at their limits.
func TestWithLimits(t *testing.T) {
	x := filled(t, limits()...)
	names, texts := []string{"", "z"}, []string{"", "z", strings.Repeat("\x00", 63), strings.Repeat("\x00", 65)}
	for _, s := range limits() {
		for _, l := range s.Labels {
			names, texts = append(names, l.Name), append(texts, l.Text)
		}
		checkTakes(t, x, limits(), window(s.Metric))
	}
	checkWith(t, x, limits(), names, texts)
	for _, name := range names[2:] {
		for _, text := range texts[:3] {
			for _, m := range []api.Matcher{is(name, text), not(name, text)} {
				checkTakes(t, x, limits(), window("a", m))
				checkTakes(t, x, limits(), window(strings.Repeat("m", 24), m))
			}
		}
	}
}

// P12.2: windows with up to two matchers, each of them in all ways.
func TestTakes(t *testing.T) {
	var all []api.Matcher
	for _, name := range []string{"a", "b", "d"} {
		for _, text := range []string{"", "x", "y", "z"} {
			all = append(all, is(name, text), not(name, text))
		}
	}
	x, r := filled(t, few()...), few()
	for _, metric := range []string{"a", "b", "c"} {
		checkTakes(t, x, r, window(metric))
		for _, first := range all {
			checkTakes(t, x, r, window(metric, first))
			for _, second := range all {
				checkTakes(t, x, r, window(metric, first, second))
			}
		}
	}
}

// P12.2: what Takes returns, given by hand.
func TestTakesByHand(t *testing.T) {
	x := filled(t, series("cpu", "a", "x"), series("mem", "a", "x"), series("cpu"), series("cpu", "a", "y"), series("cpu", "a", "x", "b", "x"), series("a", "cpu", "x"))
	for _, c := range []struct {
		e    api.Expr
		want []int
	}{
		{window("cpu"), []int{1, 3, 4, 5}},
		{window("mem"), []int{2}},
		{window("a"), []int{6}},
		{window("b"), nil},
		{window("cpu", is("a", "x")), []int{1, 5}},
		{window("cpu", not("a", "x")), []int{3, 4}},
		{window("cpu", is("a", "")), []int{3}},
		{window("cpu", not("a", "")), []int{1, 4, 5}},
		{window("cpu", is("b", "")), []int{1, 3, 4}},
		{window("cpu", is("a", "x"), is("b", "")), []int{1}},
		{window("cpu", is("a", "x"), is("a", "x")), []int{1, 5}},
		{window("cpu", is("a", "x"), is("a", "y")), nil},
		{window("cpu", is("a", "x"), not("a", "x")), nil},
		{window("cpu", not("a", "x"), not("a", "y")), []int{3}},
		{window("cpu", not("a", "x"), not("a", "y"), not("a", "")), nil},
		{window("mem", is("a", "x"), is("b", ""), not("c", "x")), []int{2}},
	} {
		if l := x.Takes(c.e); !slices.Equal(l, c.want) {
			t.Errorf("takes of %q %v: %v, not %v", c.e.Metric, c.e.Match, l, c.want)
		}
	}
}

// P12.2: the function and the span of a window decide nothing, as long as they
// are valid; at most MaxMatch matchers are valid.
func TestTakesValid(t *testing.T) {
	r := reference{series("a", "b", "c"), series("b"), series("a")}
	x := filled(t, r...)
	for fn := api.FnSum; fn <= api.FnIncrease; fn++ {
		for _, span := range []int64{1, 2, 1000, api.MaxSpan} {
			for n := range api.MaxMatch + 1 {
				e := window("a", slices.Repeat([]api.Matcher{is("b", "c")}, n)...)
				e.Func, e.Span = fn, span
				checkTakes(t, x, r, e)
			}
		}
	}
	checkTakes(t, x, r, window("a", not(strings.Repeat("n", 24), strings.Repeat("x", 64))))
	empty := window("a")
	empty.Match, empty.Names, empty.Kids = []api.Matcher{}, []string{}, []api.Expr{}
	checkTakes(t, x, r, empty)
}

// changed returns a window that accepts series of a, with a change.
func changed(by func(e *api.Expr)) api.Expr {
	e := window("a", is("b", "c"))
	by(&e)
	return e
}

// P12.2: what is not a valid window accepts nothing.
func TestTakesInvalid(t *testing.T) {
	x := filled(t, series("a", "b", "c"), series("a"), series("b", "b", "c"))
	kid := window("a")
	all := []api.Expr{
		{},
		{Kind: api.ExGroup, Func: api.GrTotal, Kids: []api.Expr{kid}},
		{Kind: api.ExJoin, Op: api.OpAdd, Kids: []api.Expr{kid, kid}},
		{Kind: api.ExScale, Op: api.OpAdd, Kids: []api.Expr{kid}},
		{Kind: api.ExFilter, Op: api.OpMore, Kids: []api.Expr{kid}},
		window(""), window("1"), window("A"), window(strings.Repeat("a", 25)),
		window("a", is("", "c")), window("a", is("B", "c")), window("a", not("", "c")),
		window("a", not("1", "")), window("a", not(strings.Repeat("b", 25), "")),
		window("a", not("b", strings.Repeat("x", 65))), window("a", is("b", "c"), is("b", strings.Repeat("x", 65))),
		window("a", slices.Repeat([]api.Matcher{is("b", "c")}, 9)...),
		window("a", slices.Repeat([]api.Matcher{not("b", "x")}, 100)...),
	}
	for _, kind := range []int{math.MinInt64, -1, 0, 3, math.MaxInt64} {
		all = append(all, changed(func(e *api.Expr) { e.Match[0].Kind = kind }))
	}
	for _, kind := range []int{math.MinInt64, -1, 0, 2, 3, 4, 5, 6, math.MaxInt64} {
		all = append(all, changed(func(e *api.Expr) { e.Kind = kind }))
	}
	for _, fn := range []int{math.MinInt64, -1, 0, 7, math.MaxInt64} {
		all = append(all, changed(func(e *api.Expr) { e.Func = fn }))
	}
	for _, span := range []int64{math.MinInt64, -1, 0, api.MaxSpan + 1, math.MaxInt64} {
		all = append(all, changed(func(e *api.Expr) { e.Span = span }))
	}
	within := make([]api.Expr, 1)
	within[0] = changed(func(e *api.Expr) { e.Kids = within })
	all = append(all,
		within[0],
		changed(func(e *api.Expr) { e.Op = api.OpAdd }),
		changed(func(e *api.Expr) { e.Num = 1 }),
		changed(func(e *api.Expr) { e.Names = []string{"b"} }),
		changed(func(e *api.Expr) { e.Kids = []api.Expr{kid} }),
	)
	for i, e := range all {
		if l := x.Takes(e); len(l) != 0 {
			t.Errorf("takes of expression %d: %v", i, l)
		}
	}
	if l := x.Takes(changed(func(*api.Expr) {})); !slices.Equal(l, []int{1}) {
		t.Errorf("takes without a change: %v", l)
	}
}

// P12.3: Takes has the same result as testing each series, also while series
// are added.
func TestTakesEach(t *testing.T) {
	metrics, names, texts := []string{"a", "b"}, []string{"a", "b", "c", "d"}, []string{"", "", "x", "x", "x", "y", "z"}
	for seed := range 20 {
		d := dice(seed)
		x, r := intern.New(), reference{}
		for range 60 {
			s := d.series(metrics, names, texts)
			r.put(s)
			x.Put(s)
			for range 20 {
				e := d.window(metrics, names, texts)
				checkTakes(t, x, r, e)
				for id := 1; id <= x.Len(); id++ {
					s, _ := x.Series(id)
					want := s.Metric == e.Metric && label.Takes(e.Match, s.Labels)
					if slices.Contains(x.Takes(e), id) != want {
						t.Fatalf("takes of %q %v: %v, wrong at %d", e.Metric, e.Match, x.Takes(e), id)
					}
				}
			}
		}
		checkWith(t, x, r, append(names, "e"), append(texts, "w"))
	}
}

// P12.2, P12.3: a full table, with as many names and texts as there can be.
func TestTakesFull(t *testing.T) {
	r := reference{}
	for i := range api.MaxSeries {
		s := series("m")
		for j := range api.MaxLabels {
			s.Labels = append(s.Labels, api.Label{Name: "n" + strconv.Itoa(j) + "_" + strconv.Itoa(i%(1<<j)), Text: strconv.Itoa(i)})
		}
		r = append(r, s)
	}
	x := filled(t, r...)
	check(t, x, r)
	d := dice(5)
	for range 300 {
		i, j := d.of(api.MaxSeries), d.of(api.MaxLabels)
		name, text := "n"+strconv.Itoa(j)+"_"+strconv.Itoa(i%(1<<j)), strconv.Itoa(i)
		checkWith(t, x, r, []string{name}, []string{"", text})
		checkTakes(t, x, r, window("m", is(name, text)))
		checkTakes(t, x, r, window("m", not(name, text), is("n3_1", "")))
		checkTakes(t, x, r, window("m", not(name, ""), not("n1_0", text)))
		checkTakes(t, x, r, window("m", is(name, ""), not("n2_2", "")))
	}
}
