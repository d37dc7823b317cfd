package label_test

import (
	"slices"
	"strings"
	"testing"

	"waterwheel/api"
	"waterwheel/label"
	"waterwheel/wire"
)

// keyOf is the key as the chapter describes it, also of what is no valid set.
func keyOf(l []api.Label) string {
	var key []byte
	for _, x := range l {
		key, _ = wire.Text(key, x.Name)
		key, _ = wire.Text(key, x.Text)
	}
	return string(key)
}

// P3.2: Key.
func TestKey(t *testing.T) {
	long, most := strings.Repeat("a", 24), strings.Repeat("x", 64)
	for _, c := range []struct {
		l    []api.Label
		want string
	}{
		{nil, ""},
		{[]api.Label{}, ""},
		{list("a", "y"), "\x01\x01a\x01\x01y"},
		{list("a", "y", "b", "x"), "\x01\x01a\x01\x01y\x01\x01b\x01\x01x"},
		{list("name", "a \x00 text"), "\x01\x04name\x01\x08a \x00 text"},
		{list(long, most), "\x01\x18" + long + "\x01\x40" + most},
	} {
		if got := label.Key(c.l); got != c.want {
			t.Errorf("Key of %q is %q", c.l, got)
		}
	}
	for _, l := range valids() {
		if got := label.Key(l); got != keyOf(l) {
			t.Errorf("Key of %q is %q", l, got)
		}
	}
}

// P3.3: Parse of Key is the set, and different sets have different keys.
func TestParseOfKey(t *testing.T) {
	all := append(valids(), nil)
	seen := map[string]int{}
	for i, l := range all {
		key := label.Key(l)
		if got, e := label.Parse(key); e != api.OK || !slices.Equal(got, l) {
			t.Errorf("Parse of the key of %q is %q, %d", l, got, e)
		}
		if before, is := seen[key]; is && !slices.Equal(all[before], l) {
			t.Errorf("%q and %q have the same key", all[before], l)
		}
		seen[key] = i
	}
}

// P3.3: sets whose bytes are the same, one after the other, have different
// keys.
func TestKeysDiffer(t *testing.T) {
	sets := [][]api.Label{
		list("a", "bc"),
		list("ab", "c"),
		list("a", "b", "c", "d"),
		list("a", "bcd"),
		list("abc", "d"),
		list("a", "b\x01\x01c\x01\x01d"),
	}
	for i, a := range sets {
		for j, b := range sets {
			if (label.Key(a) == label.Key(b)) != (i == j) {
				t.Errorf("the keys of %q and %q", a, b)
			}
		}
	}
}

// wantNoSet checks that Parse finds no set.
func wantNoSet(t *testing.T, key string) {
	t.Helper()
	if got, e := label.Parse(key); e != api.ErrBad || len(got) != 0 {
		t.Errorf("Parse of %q is %q, %d", key, got, e)
	}
}

// P3.2: Parse of bytes that are no key.
func TestParseErrors(t *testing.T) {
	for _, key := range []string{
		"x",
		"\x00",
		"\x00\x00",
		"\x01",
		"\x01\x01",
		"\x01\x01a",
		"\x01\x01a\x01",
		"\x01\x01a\x01\x01",
		"\x01\x01a\x00",
		"\x00\x01\x01x",
		"\x02\x01\x00a\x01\x01y",
		"\x01\x01a\x02\x01\x00y",
		"\x01\x00\x01\x01y",
		"\x09\x01\x00\x00\x00\x00\x00\x00\x00\x00a\x01\x01y",
		"\x08\xff\xff\xff\xff\xff\xff\xff\xffa\x01\x01y",
		"\x01\x01a\x08\xff\xff\xff\xff\xff\xff\xff\x7fy",
		"{a=\"y\"}",
	} {
		wantNoSet(t, key)
	}
	huge := strings.Repeat("h", api.MaxText)
	wantNoSet(t, keyOf(list("a", huge)))
	wantNoSet(t, keyOf(list(huge, "x")))
	wantNoSet(t, "\x01\x01a\x03\x01\x00\x10"+huge+"h")
	wantNoSet(t, strings.Repeat("\x00", 1<<20))
	wantNoSet(t, strings.Repeat(keyOf(list("a", "y")), 1<<16))
}

// P3.2: Parse of bytes that tell labels which are no valid set.
func TestParseInvalidSets(t *testing.T) {
	for _, x := range invalids() {
		wantNoSet(t, keyOf(x.l))
	}
	for c := range 256 {
		l := list(string([]byte{byte(c)}), "x")
		if !label.Name(l[0].Name) {
			wantNoSet(t, keyOf(l))
		}
	}
	for n := range 300 {
		want := n >= 1 && n <= 64
		l := list("a", strings.Repeat("t", n))
		if got, e := label.Parse(keyOf(l)); (e == api.OK) != want || want && !slices.Equal(got, l) {
			t.Errorf("Parse with a text of %d bytes is %q, %d", n, got, e)
		}
	}
	for n := range 20 {
		if got, e := label.Parse(keyOf(many(n))); (e == api.OK) != (n <= 8) || n <= 8 && !slices.Equal(got, many(n)) {
			t.Errorf("Parse of %d labels is %q, %d", n, got, e)
		}
	}
}

// P3.2: keys that are cut off or have something behind them. What is still the
// key of a set is the key of those labels that are whole.
func TestParseCutOff(t *testing.T) {
	for _, l := range valids() {
		key := label.Key(l)
		whole := map[int]int{}
		for n := range len(l) + 1 {
			whole[len(keyOf(l[:n]))] = n
		}
		for size := range len(key) + 1 {
			n, is := whole[size]
			if !is {
				wantNoSet(t, key[:size])
				continue
			}
			if got, e := label.Parse(key[:size]); e != api.OK || !slices.Equal(got, l[:n]) {
				t.Errorf("Parse of %q is %q, %d", key[:size], got, e)
			}
		}
		for c := range 256 {
			wantNoSet(t, key+string([]byte{byte(c)}))
		}
	}
}

// P3.3: whatever byte of a key is changed, what is read has these bytes as its
// key.
func TestParseChanged(t *testing.T) {
	for _, l := range [][]api.Label{list("a", "y"), list("a", "y", "b", "x"), list("aa", "xx", "b", "yy", "cc", "z"), many(8)} {
		for at := range label.Key(l) {
			for c := range 256 {
				b := []byte(label.Key(l))
				b[at] = byte(c)
				wantOwnKey(t, string(b))
			}
		}
	}
}

func wantOwnKey(t *testing.T, key string) {
	t.Helper()
	got, e := label.Parse(key)
	if e == api.OK && label.Check(got) == api.OK && label.Key(got) == key {
		return
	}
	if e != api.ErrBad || len(got) != 0 {
		t.Errorf("Parse of %q is %q, %d", key, got, e)
	}
}

// P3.2 with rule 3: what Parse returns is new memory.
func TestParseSharesNothing(t *testing.T) {
	key := label.Key(many(3))
	a, _ := label.Parse(key)
	b, _ := label.Parse(key)
	clear(a[:cap(a)])
	if !slices.Equal(b, many(3)) {
		t.Errorf("%q", b)
	}
}

// P3.2: Text.
func TestText(t *testing.T) {
	for _, c := range []struct {
		l    []api.Label
		want string
	}{
		{nil, `{}`},
		{[]api.Label{}, `{}`},
		{list("a", "y"), `{a="y"}`},
		{list("a", "y", "b", "x"), `{a="y",b="x"}`},
		{list("a", "y", "b", "x", "c_1", ","), `{a="y",b="x",c_1=","}`},
		{list("a", `"`), `{a="\""}`},
		{list("a", `\`), `{a="\\"}`},
		{list("a", `\"x\"`), `{a="\\\"x\\\""}`},
		{list("a", "\n\t\x00\x1f\x7f\xff"), `{a="\x0a\x09\x00\x1f\x7f\xff"}`},
		{list("a", "é"), `{a="\xc3\xa9"}`},
		{list("a", " ~{}='"), `{a=" ~{}='"}`},
		{list(strings.Repeat("a", 24), strings.Repeat("\xab", 64)), `{` + strings.Repeat("a", 24) + `="` + strings.Repeat(`\xab`, 64) + `"}`},
		{many(8), `{na="t",nb="t",nc="t",nd="t",ne="t",nf="t",ng="t",nh="t"}`},
	} {
		if got := label.Text(c.l); got != c.want {
			t.Errorf("Text of %q is %s", c.l, got)
		}
	}
}

// P3.2: each byte in quotes.
func TestTextBytes(t *testing.T) {
	for c := range 256 {
		s := string([]byte{byte(c)})
		want := s
		switch {
		case s == `"` || s == `\`:
			want = `\` + s
		case c < 32 || c > 126:
			want = `\x` + "0123456789abcdef"[c/16:c/16+1] + "0123456789abcdef"[c%16:c%16+1]
		}
		if got := label.Text(list("a", s)); got != `{a="`+want+`"}` {
			t.Errorf("Text of the byte %d is %s", c, got)
		}
		if got := label.Text(list("a", "<"+s+s+">")); got != `{a="<`+want+want+`>"}` {
			t.Errorf("Text of the byte %d in a text is %s", c, got)
		}
	}
}

// P3.1, P3.2: the examples of the chapter.
func TestExamples(t *testing.T) {
	it, e := label.Of(api.Label{Name: "b", Text: "x"}, api.Label{Name: "a", Text: "y"}, api.Label{Name: "c"})
	if e != api.OK || label.Text(it) != `{a="y",b="x"}` {
		t.Errorf("%q, %d", it, e)
	}
	if !label.Takes([]api.Matcher{is("a", "y"), not("c", "z")}, it) || !label.Takes([]api.Matcher{is("c", "")}, it) {
		t.Error("Takes")
	}
	if got := label.Text(label.Only(it, []string{"a"})); got != `{a="y"}` {
		t.Error(got)
	}
	if got := label.Text(label.Without(it, []string{"a"})); got != `{b="x"}` {
		t.Error(got)
	}
}
