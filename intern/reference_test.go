package intern_test

import (
	"fmt"
	"slices"
	"strings"
	"testing"

	"waterwheel/api"
	"waterwheel/intern"
)

// A reference is the series of a table in order. It says the same as the
// chapter, by asking each of them.
type reference []api.Series

// same reports whether two series are the same.
func same(a, b api.Series) bool {
	return a.Metric == b.Metric && slices.Equal(a.Labels, b.Labels)
}

// find says what Find says.
func (r reference) find(s api.Series) (int, bool) {
	i := slices.IndexFunc(r, func(x api.Series) bool { return same(x, s) })
	return i + 1, i >= 0
}

// put says what Put says of a series that is valid.
func (r *reference) put(s api.Series) (int, api.Errno) {
	if id, is := r.find(s); is {
		return id, api.OK
	}
	if len(*r) == api.MaxSeries {
		return 0, api.ErrLong
	}
	*r = append(*r, s)
	return len(*r), api.OK
}

// textOf returns the text of the label of a name, or the empty text.
func textOf(s api.Series, name string) string {
	for _, l := range s.Labels {
		if l.Name == name {
			return l.Text
		}
	}
	return ""
}

// accepts reports whether a valid window accepts a series.
func accepts(e api.Expr, s api.Series) bool {
	for _, m := range e.Match {
		if (textOf(s, m.Name) == m.Text) != (m.Kind == api.MatchIs) {
			return false
		}
	}
	return s.Metric == e.Metric
}

// ids returns the numbers of the series for which a function returns true.
func (r reference) ids(is func(s api.Series) bool) (l []int) {
	for i, s := range r {
		if is(s) {
			l = append(l, i+1)
		}
	}
	return l
}

// takes says what Takes says of a valid window.
func (r reference) takes(e api.Expr) []int {
	return r.ids(func(s api.Series) bool { return accepts(e, s) })
}

// with says what With says.
func (r reference) with(name, text string) []int {
	return r.ids(func(s api.Series) bool { return textOf(s, name) == text })
}

// bytes says what Bytes says. No length that it writes is above 65,535.
func (r reference) bytes() string {
	var b strings.Builder
	b.WriteString(number(len(r)))
	for _, s := range r {
		b.WriteString(text(key(s)))
	}
	return b.String()
}

// key returns the key of a series.
func key(s api.Series) string {
	k := text(s.Metric)
	for _, l := range s.Labels {
		k += text(l.Name) + text(l.Text)
	}
	return k
}

// text returns a text as the bytes of it.
func text(s string) string {
	return number(len(s)) + s
}

// number returns a number that is at most 65,535 as the bytes of it.
func number(n int) string {
	switch {
	case n == 0:
		return "\x00"
	case n < 256:
		return "\x01" + string([]byte{byte(n)})
	}
	return "\x02" + string([]byte{byte(n), byte(n >> 8)})
}

// series returns a series with labels of names and texts in turn.
func series(metric string, l ...string) api.Series {
	s := api.Series{Metric: metric}
	for i := 0; i < len(l); i += 2 {
		s.Labels = append(s.Labels, api.Label{Name: l[i], Text: l[i+1]})
	}
	return s
}

// window returns a valid window, if the metric and the matchers are valid.
func window(metric string, m ...api.Matcher) api.Expr {
	return api.Expr{Kind: api.ExWindow, Func: api.FnSum, Metric: metric, Match: m, Span: 1}
}

// is returns a matcher that accepts a text.
func is(name, text string) api.Matcher {
	return api.Matcher{Kind: api.MatchIs, Name: name, Text: text}
}

// not returns a matcher that accepts all texts but one.
func not(name, text string) api.Matcher {
	return api.Matcher{Kind: api.MatchNot, Name: name, Text: text}
}

// filled returns a table with some series, which must be valid and different.
func filled(t *testing.T, l ...api.Series) *intern.Table {
	t.Helper()
	x := intern.New()
	for i, s := range l {
		if id, e := x.Put(s); id != i+1 || e != api.OK {
			t.Fatalf("put of series %d: %d, error %d", i+1, id, e)
		}
	}
	return x
}

// check checks what a table has against what it should have.
func check(t *testing.T, x *intern.Table, r reference) {
	t.Helper()
	if x.Len() != len(r) {
		t.Fatalf("%d series, not %d", x.Len(), len(r))
	}
	for i, want := range r {
		if s, is := x.Series(i + 1); !is || !same(s, want) {
			t.Fatalf("series %d: %q %t, not %q", i+1, s, is, want)
		}
		if id, is := x.Find(want); id != i+1 || !is {
			t.Fatalf("find of %q: %d %t, not %d", want, id, is, i+1)
		}
	}
	for _, id := range []int{-1 << 63, -1, 0, len(r) + 1, 1<<63 - 1} {
		if s, is := x.Series(id); is || s.Metric != "" || len(s.Labels) != 0 {
			t.Fatalf("series %d of %d: %q %t", id, len(r), s, is)
		}
	}
	if b := x.Bytes(); string(b) != r.bytes() {
		t.Fatalf("bytes of %d series: %s, not %s", len(r), short(string(b)), short(r.bytes()))
	}
}

// checkWith checks what With returns for each of these names with each of these
// texts, of a table whose series are those of r.
func checkWith(t *testing.T, x *intern.Table, r reference, names, texts []string) {
	t.Helper()
	for _, name := range names {
		for _, text := range texts {
			if l, want := x.With(name, text), r.with(name, text); !slices.Equal(l, want) {
				t.Fatalf("with %q %q: %v, not %v", name, text, l, want)
			}
		}
	}
}

// checkTakes checks what Takes returns of a valid window, of a table whose
// series are those of r.
func checkTakes(t *testing.T, x *intern.Table, r reference, e api.Expr) {
	t.Helper()
	if l, want := x.Takes(e), r.takes(e); !slices.Equal(l, want) {
		t.Fatalf("takes of %q %v: %v, not %v", e.Metric, e.Match, l, want)
	}
}

// short returns a text in quotes, cut off if it is long.
func short(s string) string {
	return fmt.Sprintf("%.200q", s)
}

// A dice gives numbers that look like chance.
type dice uint64

// of returns a number from 0 to n - 1.
func (d *dice) of(n int) int {
	*d = *d*6364136223846793005 + 1442695040888963407
	return int(*d >> 33 % dice(n))
}

// one returns one of l.
func (d *dice) one(l []string) string {
	return l[d.of(len(l))]
}

// series returns a valid series of these metrics, names, which must ascend, and
// texts, of which the empty one is no label.
func (d *dice) series(metrics, names, texts []string) api.Series {
	s := series(d.one(metrics))
	for _, name := range names {
		if text := d.one(texts); text != "" {
			s.Labels = append(s.Labels, api.Label{Name: name, Text: text})
		}
	}
	return s
}

// window returns a valid window of these metrics, names and texts.
func (d *dice) window(metrics, names, texts []string) api.Expr {
	e := window(d.one(metrics))
	e.Func, e.Span = 1+d.of(api.FnIncrease), int64(1+d.of(api.MaxSpan))
	for range d.of(api.MaxMatch + 1) {
		e.Match = append(e.Match, api.Matcher{Kind: 1 + d.of(2), Name: d.one(names), Text: d.one(texts)})
	}
	return e
}
