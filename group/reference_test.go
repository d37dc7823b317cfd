package group_test

import (
	"cmp"
	"encoding/binary"
	"fmt"
	"math/big"
	"slices"
	"strings"
	"testing"

	"waterwheel/api"
	"waterwheel/batch"
	"waterwheel/group"
	"waterwheel/sample"
)

// list returns labels with these names and texts.
func list(pairs ...string) []api.Label {
	var l []api.Label
	for pair := range slices.Chunk(pairs, 2) {
		l = append(l, api.Label{Name: pair[0], Text: pair[1]})
	}
	return l
}

// result returns a result with a number.
func result(n int64, pairs ...string) api.Result {
	return api.Result{Labels: list(pairs...), Value: api.Value{N: n}}
}

// over returns a result that is over.
func over(pairs ...string) api.Result {
	return api.Result{Labels: list(pairs...), Value: api.Value{Over: true}}
}

// put returns a change to a number.
func put(n int64, pairs ...string) api.Change {
	return api.Change{Labels: list(pairs...), Value: api.Value{N: n}}
}

// putOver returns a change to a value that is over.
func putOver(pairs ...string) api.Change {
	return api.Change{Labels: list(pairs...), Value: api.Value{Over: true}}
}

// gone returns a change by which something goes.
func gone(pairs ...string) api.Change {
	return api.Change{Labels: list(pairs...), Gone: true}
}

// refCompare compares sets of labels.
func refCompare(a, b []api.Label) int {
	return slices.CompareFunc(a, b, func(x, y api.Label) int {
		return cmp.Or(strings.Compare(x.Name, y.Name), strings.Compare(x.Text, y.Text))
	})
}

// refFind returns where labels are in a vector, or would be.
func refFind(v []api.Result, l []api.Label) (int, bool) {
	return slices.BinarySearchFunc(v, l, func(x api.Result, l []api.Label) int { return refCompare(x.Labels, l) })
}

// refOnly returns the labels that have one of names.
func refOnly(l []api.Label, names []string) (own []api.Label) {
	for _, x := range l {
		if slices.Contains(names, x.Name) {
			own = append(own, x)
		}
	}
	return own
}

// refValue returns the value of a function for values, in exact integers.
func refValue(fn int, values []api.Value) api.Value {
	if fn == api.GrMany {
		return api.Value{N: int64(len(values))}
	}
	sum, low, high := new(big.Int), values[0].N, values[0].N
	for _, v := range values {
		if v.Over {
			return v
		}
		sum.Add(sum, big.NewInt(v.N))
		low, high = min(low, v.N), max(high, v.N)
	}
	switch {
	case fn == api.GrLeast:
		return api.Value{N: low}
	case fn == api.GrMost:
		return api.Value{N: high}
	case sum.IsInt64():
		return api.Value{N: sum.Int64()}
	}
	return api.Value{Over: true}
}

// refChanges says what Changes says of vectors: it asks for each labels of
// either.
func refChanges(a, b []api.Result) (l []api.Change) {
	for _, x := range b {
		if i, is := refFind(a, x.Labels); !is || a[i].Value != x.Value {
			l = append(l, api.Change{Labels: x.Labels, Value: x.Value})
		}
	}
	for _, x := range a {
		if _, is := refFind(b, x.Labels); !is {
			l = append(l, api.Change{Labels: x.Labels, Gone: true})
		}
	}
	slices.SortFunc(l, func(x, y api.Change) int { return refCompare(x.Labels, y.Labels) })
	return l
}

// refApply says what Apply says of a vector and valid changes, but for its
// limit: it applies one after the other.
func refApply(v []api.Result, l []api.Change) []api.Result {
	v = copyOf(v)
	for _, c := range l {
		i, is := refFind(v, c.Labels)
		if is {
			v = slices.Delete(v, i, i+1)
		}
		if !c.Gone {
			v = slices.Insert(v, i, api.Result{Labels: slices.Clone(c.Labels), Value: c.Value})
		}
	}
	return v
}

// A reference is what a group has. It says the same as the chapter, by asking
// each of its results again.
type reference struct {
	fn    int
	names []string
	in    []api.Result
}

// vector says what Vector says.
func (r reference) vector() (v []api.Result) {
	values := map[string][]api.Value{}
	for _, x := range r.in {
		l := refOnly(x.Labels, r.names)
		key := fmt.Sprintf("%q", l)
		if i, is := refFind(v, l); !is {
			v = slices.Insert(v, i, api.Result{Labels: l})
		}
		values[key] = append(values[key], x.Value)
	}
	for i, x := range v {
		v[i].Value = refValue(r.fn, values[fmt.Sprintf("%q", x.Labels)])
	}
	return v
}

// set says what Set says of valid changes.
func (r *reference) set(l []api.Change) ([]api.Change, api.Errno) {
	in := refApply(r.in, l)
	if len(in) > 4096 {
		return nil, api.ErrLong
	}
	before := r.vector()
	r.in = in
	return refChanges(before, r.vector()), api.OK
}

// bytes says what Bytes says.
func (r reference) bytes() string {
	return written(uint64(r.fn), r.names, r.in...)
}

// written returns the bytes of a function, names and results, also if no group
// has them.
func written(fn uint64, names []string, v ...api.Result) string {
	var b strings.Builder
	b.WriteString(number(fn) + number(uint64(len(names))))
	for _, name := range names {
		b.WriteString(text(name))
	}
	b.WriteString(number(uint64(len(v))))
	for _, x := range v {
		b.WriteString(entry(x))
	}
	return b.String()
}

// entry returns the bytes of a result.
func entry(x api.Result) string {
	key := ""
	for _, y := range x.Labels {
		key += text(y.Name) + text(y.Text)
	}
	if x.Over {
		return text(key) + "\x01"
	}
	return text(key) + "\x00" + signed(x.N)
}

// number returns a number as the bytes of it.
func number(x uint64) string {
	s := strings.TrimRight(string(binary.LittleEndian.AppendUint64(nil, x)), "\x00")
	return string([]byte{byte(len(s))}) + s
}

// signed returns a signed number as the bytes of it.
func signed(x int64) string {
	if x < 0 {
		return number(^(uint64(x) << 1))
	}
	return number(uint64(x) << 1)
}

// text returns a text as the bytes of it.
func text(s string) string {
	return number(uint64(len(s))) + s
}

// A pair is a group, and what it should be.
type pair struct {
	g *group.Group
	r reference
}

// made returns a group without results, and its reference.
func made(t *testing.T, fn int, names ...string) *pair {
	t.Helper()
	g, e := group.New(fn, names)
	if e != api.OK || g == nil {
		t.Fatalf("new of %d, %q: a group %t, error %d", fn, names, g != nil, e)
	}
	return &pair{g, reference{fn: fn, names: names}}
}

// filled returns a group with these results, and its reference.
func filled(t *testing.T, fn int, names []string, v ...api.Result) *pair {
	t.Helper()
	x := made(t, fn, names...)
	x.set(t, refChanges(nil, v)...)
	return x
}

// set sets both, and checks what is returned.
func (x *pair) set(t *testing.T, l ...api.Change) {
	t.Helper()
	got, e := x.g.Set(l)
	want, wantE := x.r.set(l)
	if e != wantE || !sameChanges(got, want) {
		t.Fatalf("set of %s: error %d, not %d, and %s, not %s", short(l), e, wantE, short(got), short(want))
	}
}

// again replaces the group by the one that is read from its bytes.
func (x *pair) again(t *testing.T) {
	t.Helper()
	x.g = read(t, string(x.g.Bytes()))
}

// check checks all that the group has, also against what batch returns for its
// results.
func (x *pair) check(t *testing.T) {
	t.Helper()
	in, v := x.g.In(), x.g.Vector()
	if !sample.Same(in, x.r.in) || x.g.Len() != len(x.r.in) {
		t.Fatalf("%d results %s, not %s", x.g.Len(), short(in), short(x.r.in))
	}
	if want := x.r.vector(); !sample.Same(v, want) {
		t.Fatalf("%d by %q of %s: vector %s, not %s", x.r.fn, x.r.names, short(in), short(v), short(want))
	}
	if want, e := batch.Group(x.r.fn, x.r.names, in); e != api.OK || !sample.Same(v, want) {
		t.Fatalf("%d by %q of %s: vector %s, but batch returns %s, error %d", x.r.fn, x.r.names, short(in), short(v), short(want), e)
	}
	if b := string(x.g.Bytes()); b != x.r.bytes() {
		t.Fatalf("bytes %s, not %s", short(b), short(x.r.bytes()))
	}
}

// read returns the group that is read from some bytes.
func read(t *testing.T, b string) *group.Group {
	t.Helper()
	g, e := group.Read([]byte(b))
	if e != api.OK || g == nil {
		t.Fatalf("read of %s: a group %t, error %d", short(b), g != nil, e)
	}
	return g
}

// bad checks that some bytes are not those of a group.
func bad(t *testing.T, b string) {
	t.Helper()
	if g, e := group.Read([]byte(b)); g != nil || e != api.ErrBad {
		t.Errorf("read of %s: a group %t, error %d", short(b), g != nil, e)
	}
}

// same reports whether two changes are equal.
func same(a, b api.Change) bool {
	return a.Value == b.Value && a.Gone == b.Gone && slices.Equal(a.Labels, b.Labels)
}

// sameChanges reports whether two lists of changes are equal.
func sameChanges(a, b []api.Change) bool {
	return slices.EqualFunc(a, b, same)
}

// copyOf returns results that share nothing with v.
func copyOf(v []api.Result) []api.Result {
	v = slices.Clone(v)
	for i := range v {
		v[i].Labels = slices.Clone(v[i].Labels)
	}
	return v
}

// many returns a vector of n results.
func many(n int) (v []api.Result) {
	for i := range n {
		v = append(v, result(int64(i), "a", fmt.Sprint(10000+i), "b", string([]byte{byte('a' + i%5)})))
	}
	return v
}

// functions returns all functions of a group.
func functions() []int {
	return []int{api.GrTotal, api.GrMany, api.GrLeast, api.GrMost}
}

// short returns a value as a text, cut off if it is long.
func short(x any) string {
	return fmt.Sprintf("%.300q", fmt.Sprint(x))
}

// A dice gives numbers that look like chance.
type dice uint64

// of returns a number from 0 to n - 1.
func (d *dice) of(n int) int {
	*d = *d*6364136223846793005 + 1442695040888963407
	return int(*d >> 33 % dice(n))
}

// number returns a number that is small, or near a limit.
func (d *dice) number() int64 {
	n := int64(d.of(7)) - 3
	return []int64{n, n, n, n * 10, 1<<63 - 1 - max(n, 0), -1<<63 + max(n, 0), 1<<62 + n, -1<<62 - n, 1<<32 + n}[d.of(9)]
}

// value returns a value, which is sometimes over.
func (d *dice) value() api.Value {
	if d.of(9) == 0 {
		return api.Value{Over: true}
	}
	return api.Value{N: d.number()}
}

// labels returns a set of labels. The names do not have the order of their
// sizes, nor do the texts.
func (d *dice) labels() (l []api.Label) {
	for _, name := range []string{"a", "aa", "b"} {
		if text := []string{"", "x", "x\x00", "y"}[d.of(4)]; text != "" {
			l = append(l, api.Label{Name: name, Text: text})
		}
	}
	return l
}

// names returns valid Names.
func (d *dice) names() []string {
	return [][]string{nil, {"a"}, {"aa"}, {"b"}, {"a", "b"}, {"aa", "b"}, {"a", "aa", "b"}, {"c"}, {"b", "c"}}[d.of(9)]
}

// changes returns at most n valid changes.
func (d *dice) changes(n int) (l []api.Change) {
	for range d.of(n + 1) {
		c := api.Change{Labels: d.labels(), Gone: d.of(3) == 0}
		if !c.Gone {
			c.Value = d.value()
		}
		l = append(l, c)
	}
	return l
}

// vector returns a vector of at most n results.
func (d *dice) vector(n int) []api.Result {
	return refApply(nil, d.changes(n))
}
