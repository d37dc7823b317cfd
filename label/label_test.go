package label_test

import (
	"slices"
	"strings"
	"testing"

	"waterwheel/api"
	"waterwheel/label"
)

// list returns the labels with these names and texts, in this order.
func list(pairs ...string) []api.Label {
	var l []api.Label
	for pair := range slices.Chunk(pairs, 2) {
		l = append(l, api.Label{Name: pair[0], Text: pair[1]})
	}
	return l
}

// many returns a list of n labels in order.
func many(n int) []api.Label {
	var l []api.Label
	for i := range n {
		l = append(l, api.Label{Name: "n" + string(rune('a'+i)), Text: "t"})
	}
	return l
}

// An invalid is a list that is not a valid set, and the error of Check.
type invalid struct {
	l    []api.Label
	want api.Errno
}

// invalids has a list for each way in which one is not a valid set.
func invalids() []invalid {
	long := strings.Repeat("x", 65)
	return []invalid{
		{list("", "x"), api.ErrArg},
		{list("1a", "x"), api.ErrArg},
		{list("A", "x"), api.ErrArg},
		{list("a-b", "x"), api.ErrArg},
		{list("a\x00", "x"), api.ErrArg},
		{list(strings.Repeat("a", 25), "x"), api.ErrArg},
		{list("a", ""), api.ErrArg},
		{list("a", long), api.ErrArg},
		{list("a", "x", "b", "", "c", "z"), api.ErrArg},
		{list("a", "x", "b", "y", "c", long), api.ErrArg},
		{list("a", "x", "B", "y"), api.ErrArg},
		{list("b", "x", "a", "y"), api.ErrArg},
		{list("a", "x", "c", "y", "b", "z"), api.ErrArg},
		{list("ab", "x", "a", "y"), api.ErrArg},
		{list("a", "x", "a", "x"), api.ErrArg},
		{list("a", "x", "a", "y"), api.ErrArg},
		{list("a", "x", "b", "y", "b", "z"), api.ErrArg},
		{append(many(7), api.Label{Name: "nh"}), api.ErrArg},
		{many(9), api.ErrLong},
		{many(20), api.ErrLong},
		{append(many(8), many(8)...), api.ErrLong},
		{make([]api.Label, 9), api.ErrLong},
		{slices.Repeat(list("b", "", "a", long), 5), api.ErrLong},
	}
}

// valids has valid sets: the limits, and all sets of three names that are each
// other's beginnings, with texts that are each other's beginnings.
func valids() [][]api.Label {
	l := [][]api.Label{
		many(1), many(7), many(8),
		list(strings.Repeat("a", 24), strings.Repeat("x", 64)),
		list("_", "\x00", "a_1", "\xff\"\\\n"),
		list("_9", " ", "z", strings.Repeat("\x00", 64)),
	}
	texts := []string{"", "x", "xx", "y", "x\x01"}
	for _, a := range texts {
		for _, aa := range texts {
			for _, b := range texts {
				all := list("a", a, "aa", aa, "b", b)
				l = append(l, slices.DeleteFunc(all, func(x api.Label) bool { return x.Text == "" }))
			}
		}
	}
	return l
}

// shuffled returns a list in an order that looks like chance.
func shuffled(l []api.Label, seed uint64) []api.Label {
	l = slices.Clone(l)
	for i := range l {
		seed = seed*6364136223846793005 + 1442695040888963407
		j := int(seed >> 33 % uint64(i+1))
		l[i], l[j] = l[j], l[i]
	}
	return l
}

// P3.1: Name at its limits.
func TestNameSizes(t *testing.T) {
	for s, want := range map[string]bool{
		"":                             false,
		"a":                            true,
		"_":                            true,
		"7":                            false,
		"a7":                           true,
		"_7":                           true,
		"7a":                           false,
		"07":                           false,
		"cpu_load_15":                  true,
		"cpu load":                     false,
		"é":                            false,
		"aé":                           false,
		" a":                           false,
		"a ":                           false,
		strings.Repeat("z", 23):        true,
		strings.Repeat("z", 24):        true,
		strings.Repeat("z", 25):        false,
		strings.Repeat("z", 1000):      false,
		"a" + strings.Repeat("9", 23):  true,
		"9" + strings.Repeat("a", 23):  false,
		strings.Repeat("z", 23) + "Z":  false,
		strings.Repeat("z", 23) + "\n": false,
	} {
		if got := label.Name(s); got != want {
			t.Errorf("Name of %q is %v", s, got)
		}
	}
}

// P3.1: each byte at each place of a name.
func TestNameBytes(t *testing.T) {
	for c := range 256 {
		first := strings.IndexByte("abcdefghijklmnopqrstuvwxyz_", byte(c)) >= 0
		later := first || strings.IndexByte("0123456789", byte(c)) >= 0
		s := string([]byte{byte(c)})
		for _, behind := range []string{"", "a", "1", "_" + strings.Repeat("q", 22)} {
			if got := label.Name(s + behind); got != first {
				t.Errorf("Name of %q is %v", s+behind, got)
			}
		}
		for _, around := range [][2]string{{"a", ""}, {"_", "0"}, {"a0", "z"}, {strings.Repeat("q", 23), ""}} {
			if got := label.Name(around[0] + s + around[1]); got != later {
				t.Errorf("Name of %q is %v", around[0]+s+around[1], got)
			}
		}
	}
}

// P3.1: Check.
func TestCheck(t *testing.T) {
	if a, b := label.Check(nil), label.Check([]api.Label{}); a != api.OK || b != api.OK {
		t.Error(a, b)
	}
	for _, l := range valids() {
		if e := label.Check(l); e != api.OK {
			t.Errorf("Check of %q: error %d", l, e)
		}
	}
	for _, x := range invalids() {
		if e := label.Check(x.l); e != x.want {
			t.Errorf("Check of %q: error %d, not %d", x.l, e, x.want)
		}
	}
}

// P3.1: Check of texts of each size.
func TestCheckTexts(t *testing.T) {
	for n := range 70 {
		want := api.ErrArg
		if n >= 1 && n <= 64 {
			want = api.OK
		}
		for _, piece := range []string{"x", "\x00", "\xff"} {
			text := strings.Repeat(piece, n)
			for _, l := range [][]api.Label{list("a", text), list("a", text, "b", "y"), list("a", "y", "b", text)} {
				if e := label.Check(l); e != want {
					t.Errorf("Check with a text of %d bytes: error %d, not %d", n, e, want)
				}
			}
		}
	}
	for c := range 256 {
		if e := label.Check(list("a", string([]byte{byte(c)}))); e != api.OK {
			t.Errorf("Check with the byte %d: error %d", c, e)
		}
	}
}

// P3.1: Check with two equal names, or two that are not in order, at each place.
func TestCheckOrder(t *testing.T) {
	for i := range 8 {
		for j := range i {
			l := many(8)
			l[i], l[j] = l[j], l[i]
			if e := label.Check(l); e != api.ErrArg {
				t.Errorf("Check of %q: error %d", l, e)
			}
			l = many(8)
			l[i].Name = l[j].Name
			if e := label.Check(l); e != api.ErrArg {
				t.Errorf("Check of %q: error %d", l, e)
			}
		}
	}
}

// P3.1: Get, also of lists that are not valid.
func TestGet(t *testing.T) {
	long := strings.Repeat("l", 100)
	for _, c := range []struct {
		l    []api.Label
		name string
		want string
	}{
		{nil, "a", ""},
		{nil, "", ""},
		{list("a", "x", "b", "y"), "a", "x"},
		{list("a", "x", "b", "y"), "b", "y"},
		{list("a", "x", "b", "y"), "c", ""},
		{list("a", "x", "b", "y"), "", ""},
		{list("a", "x", "b", "y"), "ab", ""},
		{list("ab", "x"), "a", ""},
		{list("a", "x"), "A", ""},
		{list("b", "y", "a", "x"), "a", "x"},
		{list("b", "y", "a", "x"), "b", "y"},
		{list("a", "first", "a", "second"), "a", "first"},
		{list("a", "", "a", "second"), "a", ""},
		{list("b", "1", "a", "2", "b", "3"), "b", "1"},
		{list("", "none"), "", "none"},
		{list("1 A", long), "1 A", long},
		{append(many(20), list("far", "found")...), "far", "found"},
	} {
		if got := label.Get(c.l, c.name); got != c.want {
			t.Errorf("Get of %q, %q is %q", c.l, c.name, got)
		}
	}
	for i, x := range many(8) {
		l := many(8)
		l[i].Text = "this"
		if got := label.Get(l, x.Name); got != "this" {
			t.Errorf("Get of %q is %q", x.Name, got)
		}
	}
}

// P3.1: Of returns the labels with a text, sorted, whatever their order.
func TestOf(t *testing.T) {
	for _, l := range append(valids(), nil, []api.Label{}) {
		all := slices.Clone(l)
		for _, name := range []string{"empty", "z_empty", "_empty", "9 is no name", ""} {
			for seed := range uint64(4) {
				if got, e := label.Of(shuffled(all, seed)...); e != api.OK || !slices.Equal(got, l) {
					t.Errorf("Of %q is %q, %d", shuffled(all, seed), got, e)
				}
			}
			all = append(all, api.Label{Name: name})
		}
	}
	if got, e := label.Of(); e != api.OK || len(got) != 0 {
		t.Errorf("Of nothing is %q, %d", got, e)
	}
}

// P3.1: the errors of Of, and which one comes first.
func TestOfErrors(t *testing.T) {
	long := strings.Repeat("x", 65)
	for _, c := range []struct {
		l    []api.Label
		want api.Errno
	}{
		{list("a", "x", "a", "x"), api.ErrArg},
		{list("a", "x", "a", "y"), api.ErrArg},
		{list("a", "x", "a", ""), api.ErrArg},
		{list("a", "", "a", "x"), api.ErrArg},
		{list("a", "", "a", ""), api.ErrArg},
		{list("", "", "", ""), api.ErrArg},
		{list("b", "x", "a", "y", "b", "z"), api.ErrArg},
		{append(many(9), api.Label{Name: "na"}), api.ErrArg},
		{append(many(9), api.Label{Name: "na", Text: "t"}), api.ErrArg},
		{slices.Repeat(many(9), 2), api.ErrArg},
		{make([]api.Label, 9), api.ErrArg},
		{many(9), api.ErrLong},
		{append(list("", "x", "a", long), many(7)...), api.ErrLong},
		{append(list("", "x", "a", long), many(6)...), api.ErrArg},
		{list("", "x"), api.ErrArg},
		{list("1", "x"), api.ErrArg},
		{list(strings.Repeat("a", 25), "x"), api.ErrArg},
		{list("b", "x", "a", long), api.ErrArg},
		{list("b", "x", "A", "y"), api.ErrArg},
	} {
		for seed := range uint64(4) {
			if got, e := label.Of(shuffled(c.l, seed)...); e != c.want || len(got) != 0 {
				t.Errorf("Of %q is %q, %d, not error %d", c.l, got, e, c.want)
			}
		}
	}
}

// P3.1: Of counts only the labels with a text.
func TestOfManyEmpty(t *testing.T) {
	var all []api.Label
	for _, c := range "abcdefghijklmnopqrstuvwxyz" {
		for _, d := range "zyxwvutsrqponmlkjihgfedcba" {
			all = append(all, api.Label{Name: "empty_" + string(d) + string(c)})
		}
	}
	got, e := label.Of(append(all, many(8)...)...)
	if e != api.OK || !slices.Equal(got, many(8)) {
		t.Errorf("%q, %d", got, e)
	}
	if got, e := label.Of(append(all, many(9)...)...); e != api.ErrLong || len(got) != 0 {
		t.Errorf("%q, %d", got, e)
	}
	if got, e := label.Of(all...); e != api.OK || len(got) != 0 {
		t.Errorf("%q, %d", got, e)
	}
}

// P3.2: Only and Without.
func TestOnlyWithout(t *testing.T) {
	abc := list("a", "x", "b", "y", "c", "z")
	for _, c := range []struct {
		names         []string
		only, without []api.Label
	}{
		{nil, nil, abc},
		{[]string{}, nil, abc},
		{[]string{"d", "", "A", "ab", "1 no name"}, nil, abc},
		{[]string{"a"}, list("a", "x"), list("b", "y", "c", "z")},
		{[]string{"b"}, list("b", "y"), list("a", "x", "c", "z")},
		{[]string{"c", "a"}, list("a", "x", "c", "z"), list("b", "y")},
		{[]string{"c", "c", "d", "c"}, list("c", "z"), list("a", "x", "b", "y")},
		{[]string{"c", "b", "a"}, abc, nil},
		{append(slices.Repeat([]string{"q"}, 1000), "b"), list("b", "y"), list("a", "x", "c", "z")},
	} {
		if got := label.Only(abc, c.names); !slices.Equal(got, c.only) {
			t.Errorf("Only %q is %q", c.names, got)
		}
		if got := label.Without(abc, c.names); !slices.Equal(got, c.without) {
			t.Errorf("Without %q is %q", c.names, got)
		}
		if got := label.Only(nil, c.names); len(got) != 0 {
			t.Errorf("Only %q of nothing is %q", c.names, got)
		}
		if got := label.Without(nil, c.names); len(got) != 0 {
			t.Errorf("Without %q of nothing is %q", c.names, got)
		}
	}
}

// P3.3: Only and Without have no label in common, and together are the set.
func TestOnlyWithoutTheorem(t *testing.T) {
	for _, l := range append(valids(), nil) {
		for bits := range 256 {
			var names []string
			for i, name := range []string{"a", "aa", "b", "na", "nc", "nh", "_", "z"} {
				if bits>>i&1 == 1 {
					names = append(names, name)
				}
			}
			only, without := label.Only(l, names), label.Without(l, names)
			for _, x := range only {
				if !slices.Contains(names, x.Name) || slices.Contains(without, x) {
					t.Fatalf("Only %q of %q is %q", names, l, only)
				}
			}
			if label.Check(only) != api.OK || label.Check(without) != api.OK {
				t.Fatalf("%q, %q", only, without)
			}
			if all, e := label.Of(slices.Concat(without, only)...); e != api.OK || !slices.Equal(all, l) {
				t.Fatalf("Only and Without %q of %q are %q, %d", names, l, all, e)
			}
		}
	}
}

// P3.2: Compare.
func TestCompare(t *testing.T) {
	ascending := [][]api.Label{
		nil,
		list("_", "z"),
		list("a", "\x00"),
		list("a", "x"),
		list("a", "x", "aa", "x"),
		list("a", "x", "b", "x"),
		list("a", "x", "b", "x", "c", "x"),
		list("a", "x", "b", "y"),
		list("a", "x", "c", "a"),
		list("a", "xx"),
		list("a", "y"),
		list("a", "\xff"),
		list("a0", "x"),
		list("a_", "x"),
		list("aa", "x"),
		list("b", "a"),
		list("b", "a", "c", "a"),
	}
	for i, a := range ascending {
		for j, b := range ascending {
			want := 0
			if i < j {
				want = -1
			} else if i > j {
				want = 1
			}
			if got := label.Compare(a, b); got != want {
				t.Errorf("Compare of %q, %q is %d", a, b, got)
			}
		}
	}
}

// P3.2: Compare, against its definition, for all pairs.
func TestComparePairs(t *testing.T) {
	all := append(valids(), nil, []api.Label{})
	for _, a := range all {
		for _, b := range all {
			if got, want := label.Compare(a, b), slowCompare(a, b); got != want {
				t.Errorf("Compare of %q, %q is %d", a, b, got)
			}
		}
	}
}

// slowCompare is the order as the chapter describes it.
func slowCompare(a, b []api.Label) int {
	for i := range min(len(a), len(b)) {
		switch x, y := a[i], b[i]; {
		case x.Name < y.Name, x.Name == y.Name && x.Text < y.Text:
			return -1
		case x != y:
			return 1
		}
	}
	switch {
	case len(a) < len(b):
		return -1
	case len(a) > len(b):
		return 1
	}
	return 0
}

// P3.2: sets that are not valid, at each function.
func TestInvalidSets(t *testing.T) {
	for _, x := range invalids() {
		l := x.l
		for _, names := range [][]string{nil, {"a"}, {"", "b", "na"}} {
			if got := label.Only(l, names); len(got) != 0 {
				t.Errorf("Only %q of %q is %q", names, l, got)
			}
			if got := label.Without(l, names); len(got) != 0 {
				t.Errorf("Without %q of %q is %q", names, l, got)
			}
		}
		if got := label.Key(l); got != "" {
			t.Errorf("Key of %q is %q", l, got)
		}
		if got := label.Text(l); got != "" {
			t.Errorf("Text of %q is %q", l, got)
		}
		for _, m := range [][]api.Matcher{nil, {{Kind: api.MatchNot, Name: "q", Text: "q"}}} {
			if label.Takes(m, l) {
				t.Errorf("%v accept %q", m, l)
			}
		}
		for _, other := range [][]api.Label{nil, l, list("_", "x"), list("z", "x"), many(8), list("a", "")} {
			if a, b := label.Compare(l, other), label.Compare(other, l); a != 0 || b != 0 {
				t.Errorf("Compare of %q, %q is %d, %d", l, other, a, b)
			}
		}
	}
}

// P3.1, P3.2 with rule 3: what is returned is new memory, and no argument changes.
func TestSharesNothing(t *testing.T) {
	for name, call := range map[string]func(l []api.Label) []api.Label{
		"Of": func(l []api.Label) []api.Label {
			got, _ := label.Of(l...)
			return got
		},
		"Only all":     func(l []api.Label) []api.Label { return label.Only(l, []string{"na", "nb", "nc", "nd"}) },
		"Only first":   func(l []api.Label) []api.Label { return label.Only(l, []string{"na"}) },
		"Only none":    func(l []api.Label) []api.Label { return label.Only(l, nil) },
		"Without none": func(l []api.Label) []api.Label { return label.Without(l, nil) },
		"Without last": func(l []api.Label) []api.Label { return label.Without(l, []string{"nd"}) },
		"Without all":  func(l []api.Label) []api.Label { return label.Without(l, []string{"na", "nb", "nc", "nd"}) },
	} {
		given := many(8)
		got := call(given[:4])
		want := slices.Clone(got)
		if !slices.Equal(given, many(8)) {
			t.Errorf("%s changed what it was given: %q", name, given)
		}
		clear(given)
		if !slices.Equal(got, want) {
			t.Errorf("%s keeps what it was given: %q", name, got)
		}
		spare := got[:cap(got)]
		for i := range spare {
			spare[i].Name = "spare"
		}
		if !slices.Equal(given, make([]api.Label, 8)) {
			t.Errorf("%s returned what it was given: %q", name, given)
		}
	}
}

// P3.1 with rule 3: Of does not sort what it is given, nor take empty labels out of it.
func TestOfChangesNothing(t *testing.T) {
	given := list("c", "", "b", "x", "a", "y", "d", "")
	before := slices.Clone(given)
	if got, e := label.Of(given[:3]...); e != api.OK || !slices.Equal(got, list("a", "y", "b", "x")) {
		t.Errorf("%q, %d", got, e)
	}
	if !slices.Equal(given, before) {
		t.Errorf("%q", given)
	}
	names := []string{"b", "a", "b"}
	label.Only(list("a", "y"), names)
	label.Without(list("a", "y"), names)
	if !slices.Equal(names, []string{"b", "a", "b"}) {
		t.Errorf("%q", names)
	}
}
