package join_test

import (
	"cmp"
	"encoding/binary"
	"fmt"
	"math/big"
	"slices"
	"strings"
	"testing"

	"waterwheel/api"
	"waterwheel/batch"
	"waterwheel/join"
	"waterwheel/sample"
)

// list returns labels with these names and texts.
func list(pairs ...string) []api.Label {
	var l []api.Label
	for pair := range slices.Chunk(pairs, 2) {
		l = append(l, api.Label{Name: pair[0], Text: pair[1]})
	}
	return l
}

// result returns a result with a number.
func result(n int64, pairs ...string) api.Result {
	return api.Result{Labels: list(pairs...), Value: api.Value{N: n}}
}

// over returns a result that is over.
func over(pairs ...string) api.Result {
	return api.Result{Labels: list(pairs...), Value: api.Value{Over: true}}
}

// put returns a change to a number.
func put(n int64, pairs ...string) api.Change {
	return api.Change{Labels: list(pairs...), Value: api.Value{N: n}}
}

// putOver returns a change to a value that is over.
func putOver(pairs ...string) api.Change {
	return api.Change{Labels: list(pairs...), Value: api.Value{Over: true}}
}

// gone returns a change by which something goes.
func gone(pairs ...string) api.Change {
	return api.Change{Labels: list(pairs...), Gone: true}
}

// refCompare compares sets of labels.
func refCompare(a, b []api.Label) int {
	return slices.CompareFunc(a, b, func(x, y api.Label) int {
		return cmp.Or(strings.Compare(x.Name, y.Name), strings.Compare(x.Text, y.Text))
	})
}

// refFind returns where labels are in a vector, or would be.
func refFind(v []api.Result, l []api.Label) (int, bool) {
	return slices.BinarySearchFunc(v, l, func(x api.Result, l []api.Label) int { return refCompare(x.Labels, l) })
}

// refOnly returns the labels that have one of names.
func refOnly(l []api.Label, names []string) (own []api.Label) {
	for _, x := range l {
		if slices.Contains(names, x.Name) {
			own = append(own, x)
		}
	}
	return own
}

// refValue returns the value of an operator for two values, in exact integers.
func refValue(op int, a, b api.Value) api.Value {
	x, y, z := big.NewInt(a.N), big.NewInt(b.N), new(big.Int)
	switch op {
	case api.OpAdd:
		z.Add(x, y)
	case api.OpSub:
		z.Sub(x, y)
	case api.OpMul:
		z.Mul(x, y)
	}
	if a.Over || b.Over || !z.IsInt64() {
		return api.Value{Over: true}
	}
	return api.Value{N: z.Int64()}
}

// refChanges says what group.Changes says of vectors: it asks for each labels of
// either.
func refChanges(a, b []api.Result) (l []api.Change) {
	for _, x := range b {
		if i, is := refFind(a, x.Labels); !is || a[i].Value != x.Value {
			l = append(l, api.Change{Labels: x.Labels, Value: x.Value})
		}
	}
	for _, x := range a {
		if _, is := refFind(b, x.Labels); !is {
			l = append(l, api.Change{Labels: x.Labels, Gone: true})
		}
	}
	slices.SortFunc(l, func(x, y api.Change) int { return refCompare(x.Labels, y.Labels) })
	return l
}

// refApply applies changes to a vector, one after the other.
func refApply(v []api.Result, l []api.Change) []api.Result {
	v = copyOf(v)
	for _, c := range l {
		i, is := refFind(v, c.Labels)
		if is {
			v = slices.Delete(v, i, i+1)
		}
		if !c.Gone {
			v = slices.Insert(v, i, api.Result{Labels: slices.Clone(c.Labels), Value: c.Value})
		}
	}
	return v
}

// A reference is what a join has. It says the same as the chapter, by asking
// each of its results again.
type reference struct {
	op    int
	names []string
	in    [2][]api.Result
}

// A match has labels, and the values of the results of each side that have them.
type match struct {
	labels []api.Label
	values [2][]api.Value
}

// matches returns all matches, in the order of their labels.
func (r reference) matches() (l []match) {
	places := map[string]int{}
	for side, v := range r.in {
		for _, x := range v {
			labels := refOnly(x.Labels, r.names)
			key := fmt.Sprintf("%q", labels)
			if _, is := places[key]; !is {
				places[key] = len(l)
				l = append(l, match{labels: labels})
			}
			m := &l[places[key]]
			m.values[side] = append(m.values[side], x.Value)
		}
	}
	slices.SortFunc(l, func(x, y match) int { return refCompare(x.labels, y.labels) })
	return l
}

// vector says what Vector says.
func (r reference) vector() (v []api.Result) {
	for _, m := range r.matches() {
		if a, b := m.values[0], m.values[1]; len(a) == 1 && len(b) == 1 {
			v = append(v, api.Result{Labels: m.labels, Value: refValue(r.op, a[0], b[0])})
		}
	}
	return v
}

// many says what Many says.
func (r reference) many() (v []api.Result) {
	for _, m := range r.matches() {
		if a, b := len(m.values[0]), len(m.values[1]); a > 1 || b > 1 {
			v = append(v, api.Result{Labels: m.labels, Value: api.Value{N: int64(a + b)}})
		}
	}
	return v
}

// set says what Set says of a side that there is, and valid changes.
func (r *reference) set(side int, l []api.Change) ([]api.Change, api.Errno) {
	in := refApply(r.in[side-1], l)
	if len(in) > 4096 {
		return nil, api.ErrLong
	}
	before := r.vector()
	r.in[side-1] = in
	return refChanges(before, r.vector()), api.OK
}

// bytes says what Bytes says.
func (r reference) bytes() string {
	return written(uint64(r.op), r.names, r.in[0], r.in[1])
}

// written returns the bytes of an operator, names and the results of two sides,
// also if no join has them.
func written(op uint64, names []string, sides ...[]api.Result) string {
	var b strings.Builder
	b.WriteString(number(op) + number(uint64(len(names))))
	for _, name := range names {
		b.WriteString(text(name))
	}
	for _, v := range sides {
		b.WriteString(number(uint64(len(v))))
		for _, x := range v {
			b.WriteString(entry(x))
		}
	}
	return b.String()
}

// entry returns the bytes of a result.
func entry(x api.Result) string {
	key := ""
	for _, y := range x.Labels {
		key += text(y.Name) + text(y.Text)
	}
	if x.Over {
		return text(key) + "\x01"
	}
	return text(key) + "\x00" + signed(x.N)
}

// number returns a number as the bytes of it.
func number(x uint64) string {
	s := strings.TrimRight(string(binary.LittleEndian.AppendUint64(nil, x)), "\x00")
	return string([]byte{byte(len(s))}) + s
}

// signed returns a signed number as the bytes of it.
func signed(x int64) string {
	if x < 0 {
		return number(^(uint64(x) << 1))
	}
	return number(uint64(x) << 1)
}

// text returns a text as the bytes of it.
func text(s string) string {
	return number(uint64(len(s))) + s
}

// A pair is a join, and what it should be.
type pair struct {
	j *join.Join
	r reference
}

// made returns a join without results, and its reference.
func made(t *testing.T, op int, names ...string) *pair {
	t.Helper()
	j, e := join.New(op, names)
	if e != api.OK || j == nil {
		t.Fatalf("new of %d, %q: a join %t, error %d", op, names, j != nil, e)
	}
	return &pair{j, reference{op: op, names: names}}
}

// filled returns a join with the results a and b, and its reference.
func filled(t *testing.T, op int, names []string, a, b []api.Result) *pair {
	t.Helper()
	x := made(t, op, names...)
	x.set(t, 1, refChanges(nil, a)...)
	x.set(t, 2, refChanges(nil, b)...)
	return x
}

// set sets a side of both, and checks what is returned.
func (x *pair) set(t *testing.T, side int, l ...api.Change) {
	t.Helper()
	got, e := x.j.Set(side, l)
	want, wantE := x.r.set(side, l)
	if e != wantE || !sameChanges(got, want) {
		t.Fatalf("set of %d, %s: error %d, not %d, and %s, not %s", side, short(l), e, wantE, short(got), short(want))
	}
}

// again replaces the join by the one that is read from its bytes.
func (x *pair) again(t *testing.T) {
	t.Helper()
	x.j = read(t, string(x.j.Bytes()))
}

// check checks all that the join has, also against what batch returns for its
// results.
func (x *pair) check(t *testing.T) {
	t.Helper()
	a, b, v, many := x.j.In(1), x.j.In(2), x.j.Vector(), x.j.Many()
	if !sample.Same(a, x.r.in[0]) || !sample.Same(b, x.r.in[1]) {
		t.Fatalf("results %s and %s, not %s and %s", short(a), short(b), short(x.r.in[0]), short(x.r.in[1]))
	}
	if want := x.r.vector(); !sample.Same(v, want) {
		t.Fatalf("%d by %q of %s and %s: vector %s, not %s", x.r.op, x.r.names, short(a), short(b), short(v), short(want))
	}
	if want, e := batch.Join(x.r.op, x.r.names, a, b); e != api.OK || !sample.Same(v, want) {
		t.Fatalf("%d by %q of %s and %s: vector %s, but batch returns %s, error %d", x.r.op, x.r.names, short(a), short(b), short(v), short(want), e)
	}
	if want := x.r.many(); !sample.Same(many, want) || sample.CheckVector(many) != api.OK {
		t.Fatalf("%q of %s and %s: many %s, not %s", x.r.names, short(a), short(b), short(many), short(want))
	}
	if s := string(x.j.Bytes()); s != x.r.bytes() {
		t.Fatalf("bytes %s, not %s", short(s), short(x.r.bytes()))
	}
}

// read returns the join that is read from some bytes.
func read(t *testing.T, b string) *join.Join {
	t.Helper()
	j, e := join.Read([]byte(b))
	if e != api.OK || j == nil {
		t.Fatalf("read of %s: a join %t, error %d", short(b), j != nil, e)
	}
	return j
}

// bad checks that some bytes are not those of a join.
func bad(t *testing.T, b string) {
	t.Helper()
	if j, e := join.Read([]byte(b)); j != nil || e != api.ErrBad {
		t.Errorf("read of %s: a join %t, error %d", short(b), j != nil, e)
	}
}

// same reports whether two changes are equal.
func same(a, b api.Change) bool {
	return a.Value == b.Value && a.Gone == b.Gone && slices.Equal(a.Labels, b.Labels)
}

// sameChanges reports whether two lists of changes are equal.
func sameChanges(a, b []api.Change) bool {
	return slices.EqualFunc(a, b, same)
}

// copyOf returns results that share nothing with v.
func copyOf(v []api.Result) []api.Result {
	v = slices.Clone(v)
	for i := range v {
		v[i].Labels = slices.Clone(v[i].Labels)
	}
	return v
}

// many returns a vector of n results.
func many(n int) (v []api.Result) {
	for i := range n {
		v = append(v, result(int64(i), "a", fmt.Sprint(10000+i), "b", string([]byte{byte('a' + i%5)})))
	}
	return v
}

// operators returns all operators of a join.
func operators() []int {
	return []int{api.OpAdd, api.OpSub, api.OpMul}
}

// short returns a value as a text, cut off if it is long.
func short(x any) string {
	return fmt.Sprintf("%.300q", fmt.Sprint(x))
}

// A dice gives numbers that look like chance.
type dice uint64

// of returns a number from 0 to n - 1.
func (d *dice) of(n int) int {
	*d = *d*6364136223846793005 + 1442695040888963407
	return int(*d >> 33 % dice(n))
}

// number returns a number that is small, or near a limit.
func (d *dice) number() int64 {
	n := int64(d.of(7)) - 3
	return []int64{n, n, n, n * 10, 1<<63 - 1 - max(n, 0), -1<<63 + max(n, 0), 1<<62 + n, -1<<62 - n, 1<<32 + n}[d.of(9)]
}

// value returns a value, which is sometimes over.
func (d *dice) value() api.Value {
	if d.of(9) == 0 {
		return api.Value{Over: true}
	}
	return api.Value{N: d.number()}
}

// labels returns a set of labels. The names do not have the order of their
// sizes, nor do the texts.
func (d *dice) labels() (l []api.Label) {
	for _, name := range []string{"a", "aa", "b"} {
		if text := []string{"", "x", "x\x00", "y"}[d.of(4)]; text != "" {
			l = append(l, api.Label{Name: name, Text: text})
		}
	}
	return l
}

// names returns valid Names.
func (d *dice) names() []string {
	return [][]string{nil, {"a"}, {"aa"}, {"b"}, {"a", "b"}, {"aa", "b"}, {"a", "aa", "b"}, {"c"}, {"b", "c"}}[d.of(9)]
}

// side returns a side.
func (d *dice) side() int {
	return 1 + d.of(2)
}

// changes returns at most n valid changes.
func (d *dice) changes(n int) (l []api.Change) {
	for range d.of(n + 1) {
		c := api.Change{Labels: d.labels(), Gone: d.of(2) == 0}
		if !c.Gone {
			c.Value = d.value()
		}
		l = append(l, c)
	}
	return l
}
