package bag_test

import (
	"encoding/binary"
	"fmt"
	"math"
	"slices"
	"strings"
	"testing"

	"waterwheel/api"
	"waterwheel/bag"
)

// A reference is the values that were put and not taken, in that order. It says
// the same as the chapter, by asking each of them.
type reference []api.Value

// over is the value that is over.
var over = api.Value{Over: true}

// of returns the value of a number.
func of(n int64) api.Value {
	return api.Value{N: n}
}

// values returns the values of these numbers.
func values(l ...int64) (r reference) {
	for _, n := range l {
		r = append(r, of(n))
	}
	return r
}

// invalids has values that are not valid.
func invalids() []api.Value {
	return []api.Value{{N: 1, Over: true}, {N: -1, Over: true}, {N: math.MinInt64, Over: true}, {N: math.MaxInt64, Over: true}}
}

// put says what Put says of a valid value.
func (r *reference) put(v api.Value) {
	*r = append(*r, v)
}

// take says what Take says of a valid value.
func (r *reference) take(v api.Value) api.Errno {
	i := slices.Index(*r, v)
	if i < 0 {
		return api.ErrNone
	}
	*r = slices.Delete(*r, i, i+1)
	return api.OK
}

// numbers returns the numbers in ascending order, as often as they are there.
func (r reference) numbers() (l []int64) {
	for _, v := range r {
		if !v.Over {
			l = append(l, v.N)
		}
	}
	slices.Sort(l)
	return l
}

// end says what Least and Most say, if pick returns the least or the greatest.
func (r reference) end(pick func([]int64) int64) (api.Value, bool) {
	if slices.Contains(r, over) {
		return over, true
	}
	if len(r) == 0 {
		return api.Value{}, false
	}
	return of(pick(r.numbers())), true
}

// count says what Count says.
func (r reference) count(v api.Value) (n int) {
	for _, x := range r {
		if x == v {
			n++
		}
	}
	return n
}

// place says what Place says.
func (r reference) place(n int64) (sum int) {
	for _, x := range r {
		if !x.Over && x.N < n {
			sum++
		}
	}
	return sum
}

// counts says what Counts says.
func (r reference) counts() (l []api.Often) {
	for _, n := range r.numbers() {
		if last := len(l) - 1; last >= 0 && l[last].N == n {
			l[last].Times++
		} else {
			l = append(l, api.Often{N: n, Times: 1})
		}
	}
	return l
}

// bytes says what Bytes says.
func (r reference) bytes() string {
	return written(uint64(r.count(over)), r.counts()...)
}

// written returns the bytes of a count of over and of these counts, also if no
// bag has them.
func written(overs uint64, l ...api.Often) string {
	var b strings.Builder
	b.WriteString(number(overs) + number(uint64(len(l))))
	for _, o := range l {
		b.WriteString(signed(o.N) + number(uint64(o.Times)))
	}
	return b.String()
}

// number returns a number as the bytes of it.
func number(x uint64) string {
	s := strings.TrimRight(string(binary.LittleEndian.AppendUint64(nil, x)), "\x00")
	return string([]byte{byte(len(s))}) + s
}

// signed returns a signed number as the bytes of it.
func signed(x int64) string {
	if x < 0 {
		return number(^(uint64(x) << 1))
	}
	return number(uint64(x) << 1)
}

// filled returns a bag with some values, which must be valid.
func filled(t *testing.T, l ...api.Value) *bag.Bag {
	t.Helper()
	b := bag.New()
	for _, v := range l {
		if e := b.Put(v); e != api.OK {
			t.Fatalf("put of %v: error %d", v, e)
		}
	}
	return b
}

// read returns the bag that is read from some bytes.
func read(t *testing.T, b string) *bag.Bag {
	t.Helper()
	x, e := bag.Read([]byte(b))
	if e != api.OK || x == nil {
		t.Fatalf("read of %s: a bag %t, error %d", short(b), x != nil, e)
	}
	return x
}

// checkEnds checks the least and the greatest of a bag, and how much it has.
func checkEnds(t *testing.T, b *bag.Bag, r reference) {
	t.Helper()
	least, is := b.Least()
	if want, wantIs := r.end(slices.Min[[]int64]); least != want || is != wantIs {
		t.Fatalf("least of %d: %v %t, not %v %t", len(r), least, is, want, wantIs)
	}
	most, is := b.Most()
	if want, wantIs := r.end(slices.Max[[]int64]); most != want || is != wantIs {
		t.Fatalf("most of %d: %v %t, not %v %t", len(r), most, is, want, wantIs)
	}
	if b.Len() != len(r) {
		t.Fatalf("%d values, not %d", b.Len(), len(r))
	}
}

// check checks what a bag has against what it should have, and what it says of
// these numbers.
func check(t *testing.T, b *bag.Bag, r reference, ask ...int64) {
	t.Helper()
	checkEnds(t, b, r)
	if l, want := b.Counts(), r.counts(); !slices.Equal(l, want) {
		t.Fatalf("counts of %d: %v, not %v", len(r), l, want)
	}
	if s := string(b.Bytes()); s != r.bytes() {
		t.Fatalf("bytes of %d: %s, not %s", len(r), short(s), short(r.bytes()))
	}
	for _, v := range append(values(ask...), over) {
		if n, want := b.Count(v), r.count(v); n != want {
			t.Fatalf("count of %v: %d, not %d", v, n, want)
		}
		if n, want := b.Place(v.N), r.place(v.N); n != want {
			t.Fatalf("place of %d: %d, not %d", v.N, n, want)
		}
	}
	for _, v := range invalids() {
		if n := b.Count(v); n != 0 {
			t.Fatalf("count of %v: %d", v, n)
		}
	}
}

// near returns numbers that are, or are beside, those of r, and the least and
// the greatest number.
func (r reference) near() []int64 {
	l := []int64{math.MinInt64, math.MinInt64 + 1, -1, 0, 1, math.MaxInt64 - 1, math.MaxInt64}
	for _, n := range r.numbers() {
		// Beyond the greatest number is the least one, which may be asked too.
		l = append(l, n-1, n, n+1)
	}
	slices.Sort(l)
	return slices.Compact(l)
}

// short returns a text in quotes, cut off if it is long.
func short(s string) string {
	return fmt.Sprintf("%.200q", s)
}

// A dice gives numbers that look like chance.
type dice uint64

// of returns a number from 0 to n - 1.
func (d *dice) of(n int) int {
	*d = *d*6364136223846793005 + 1442695040888963407
	return int(*d >> 33 % dice(n))
}

// value returns one of few values around 0, which is sometimes over.
func (d *dice) value(few int) api.Value {
	if d.of(12) == 0 {
		return over
	}
	return of(int64(d.of(few) - few/2))
}

// shuffled returns a list in another order.
func shuffled[E any](d *dice, l []E) []E {
	l = slices.Clone(l)
	for i := range l {
		j := i + d.of(len(l)-i)
		l[i], l[j] = l[j], l[i]
	}
	return l
}
