package label_test

import (
	"math"
	"slices"
	"strings"
	"testing"

	"waterwheel/api"
	"waterwheel/label"
)

// is and not return matchers of the two kinds.
func is(name, text string) api.Matcher {
	return api.Matcher{Kind: api.MatchIs, Name: name, Text: text}
}

func not(name, text string) api.Matcher {
	return api.Matcher{Kind: api.MatchNot, Name: name, Text: text}
}

// P3.1: matchers that are valid.
func TestCheckMatch(t *testing.T) {
	for _, m := range [][]api.Matcher{
		nil,
		{},
		{is("a", "x")},
		{not("a", "x")},
		{is("a", "")},
		{not("a", "")},
		{is("a", strings.Repeat("x", 64))},
		{not("a", strings.Repeat("\xff", 64))},
		{is(strings.Repeat("a", 24), "x")},
		{is("b", "x"), is("a", "x")},
		{is("a", "x"), is("a", "x")},
		{is("a", "x"), not("a", "x")},
		slices.Repeat([]api.Matcher{is("a", "x")}, 7),
		slices.Repeat([]api.Matcher{not("a", "x")}, 8),
	} {
		if e := label.CheckMatch(m); e != api.OK {
			t.Errorf("CheckMatch of %v: error %d", m, e)
		}
	}
}

// wrongMatchers has matchers that are not valid, one by one.
func wrongMatchers() []api.Matcher {
	l := []api.Matcher{
		{},
		is("", "x"),
		not("", "x"),
		is("1", "x"),
		is("A", "x"),
		not("a ", "x"),
		is(strings.Repeat("a", 25), "x"),
		is("a", strings.Repeat("x", 65)),
		not("a", strings.Repeat("x", 1000)),
	}
	for _, kind := range []int{0, 3, -1, -2, 4, 257, 258, 1<<32 + 1, math.MinInt, math.MaxInt} {
		l = append(l, api.Matcher{Kind: kind, Name: "a", Text: "x"})
	}
	return l
}

// P3.1, P3.2: matchers that are not valid, at each place; they accept nothing.
func TestCheckMatchErrors(t *testing.T) {
	wants := func(m []api.Matcher, want api.Errno) {
		t.Helper()
		if e := label.CheckMatch(m); e != want {
			t.Errorf("CheckMatch of %v: error %d, not %d", m, e, want)
		}
		for _, l := range [][]api.Label{nil, list("a", "x"), list("b", "x")} {
			if label.Takes(m, l) {
				t.Errorf("%v accept %q", m, l)
			}
		}
	}
	for _, wrong := range wrongMatchers() {
		wants([]api.Matcher{wrong}, api.ErrArg)
		for at := range 8 {
			m := slices.Repeat([]api.Matcher{not("c", "y")}, 8)
			m[at] = wrong
			wants(m, api.ErrArg)
			wants(append(m, wrong), api.ErrLong)
		}
	}
	wants(slices.Repeat([]api.Matcher{not("c", "y")}, 9), api.ErrLong)
	wants(slices.Repeat([]api.Matcher{is("c", "")}, 100), api.ErrLong)
	wants(make([]api.Matcher, 9), api.ErrLong)
}

// P3.1: the bytes of a matcher's name, and the sizes of its text.
func TestCheckMatchLimits(t *testing.T) {
	for c := range 256 {
		for _, name := range []string{string([]byte{byte(c)}), string([]byte{'a', byte(c)})} {
			want := api.ErrArg
			if label.Name(name) {
				want = api.OK
			}
			if e := label.CheckMatch([]api.Matcher{is(name, "")}); e != want {
				t.Errorf("CheckMatch of %q: error %d, not %d", name, e, want)
			}
		}
		if e := label.CheckMatch([]api.Matcher{not("a", string([]byte{byte(c)}))}); e != api.OK {
			t.Errorf("CheckMatch with the byte %d: error %d", c, e)
		}
	}
	for n := range 70 {
		want := api.OK
		if n > 64 {
			want = api.ErrArg
		}
		if e := label.CheckMatch([]api.Matcher{is("a", strings.Repeat("t", n))}); e != want {
			t.Errorf("CheckMatch with a text of %d bytes: error %d, not %d", n, e, want)
		}
	}
}

// P3.2: Takes.
func TestTakes(t *testing.T) {
	ab := list("a", "y", "b", "x")
	for _, c := range []struct {
		m    []api.Matcher
		l    []api.Label
		want bool
	}{
		{nil, nil, true},
		{nil, ab, true},
		{[]api.Matcher{is("a", "y"), not("c", "z")}, ab, true},
		{[]api.Matcher{is("c", "")}, ab, true},
		{[]api.Matcher{not("c", "")}, ab, false},
		{[]api.Matcher{is("c", "z")}, ab, false},
		{[]api.Matcher{is("a", "y")}, ab, true},
		{[]api.Matcher{is("a", "x")}, ab, false},
		{[]api.Matcher{is("a", "yy")}, ab, false},
		{[]api.Matcher{is("a", "")}, ab, false},
		{[]api.Matcher{not("a", "y")}, ab, false},
		{[]api.Matcher{not("a", "x")}, ab, true},
		{[]api.Matcher{not("a", "")}, ab, true},
		{[]api.Matcher{is("b", "x")}, ab, true},
		{[]api.Matcher{not("b", "x")}, ab, false},
		{[]api.Matcher{is("a", "y"), is("a", "y")}, ab, true},
		{[]api.Matcher{is("a", "y"), not("a", "y")}, ab, false},
		{[]api.Matcher{not("a", "q"), not("a", "r")}, ab, true},
		{[]api.Matcher{is("a", "y"), is("b", "x"), is("ab", "")}, ab, true},
		{[]api.Matcher{is("a", "")}, nil, true},
		{[]api.Matcher{is("a", "x")}, nil, false},
		{[]api.Matcher{not("a", "")}, nil, false},
		{[]api.Matcher{not("a", "x")}, nil, true},
		{[]api.Matcher{is("nh", "t")}, many(8), true},
		{[]api.Matcher{is("na", "t"), not("nh", "t")}, many(8), false},
		{[]api.Matcher{is("a", strings.Repeat("x", 64))}, list("a", strings.Repeat("x", 64)), true},
	} {
		if got := label.Takes(c.m, c.l); got != c.want {
			t.Errorf("%v of %q: %v", c.m, c.l, got)
		}
	}
}

// P3.2: all of 8 matchers must accept, at whatever place they are.
func TestTakesAll(t *testing.T) {
	var m []api.Matcher
	for _, x := range many(8) {
		m = append(m, is(x.Name, x.Text))
	}
	if !label.Takes(m, many(8)) {
		t.Error("8 matchers")
	}
	for i := range m {
		other := slices.Clone(m)
		other[i].Kind = api.MatchNot
		if label.Takes(other, many(8)) {
			t.Errorf("%v", other)
		}
		other[i].Text = "other"
		if !label.Takes(other, many(8)) {
			t.Errorf("%v", other)
		}
		if l := many(8); label.Takes(m, slices.Delete(l, i, i+1)) {
			t.Errorf("without label %d", i)
		}
	}
}

// P3.2: Takes of one matcher, against its definition, for all sets.
func TestTakesEach(t *testing.T) {
	for _, l := range append(valids(), nil) {
		for _, name := range []string{"a", "aa", "b", "c", "_", "na"} {
			for _, text := range []string{"", "x", "xx", "y", "t", "q"} {
				has := label.Get(l, name)
				if got := label.Takes([]api.Matcher{is(name, text)}, l); got != (has == text) {
					t.Errorf("%s is %q, of %q: %v", name, text, l, got)
				}
				if got := label.Takes([]api.Matcher{not(name, text)}, l); got != (has != text) {
					t.Errorf("%s is not %q, of %q: %v", name, text, l, got)
				}
			}
		}
	}
}

// P3.1, P3.2 with rule 3: Takes and CheckMatch change nothing.
func TestMatchChangesNothing(t *testing.T) {
	m, l := []api.Matcher{is("b", "x"), not("a", "q"), is("c", "")}, list("a", "y", "b", "x", "a", "spare")
	mBefore, lBefore := slices.Clone(m), slices.Clone(l)
	if !label.Takes(m, l[:2]) || label.CheckMatch(m[:1]) != api.OK {
		t.Error("not accepted")
	}
	if !slices.Equal(m, mBefore) || !slices.Equal(l, lBefore) {
		t.Errorf("%v, %q", m, l)
	}
}
