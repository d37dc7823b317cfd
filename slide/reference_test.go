package slide_test

import (
	"encoding/binary"
	"fmt"
	"math"
	"math/big"
	"slices"
	"strings"
	"testing"

	"waterwheel/api"
	"waterwheel/batch"
	"waterwheel/slide"
)

// A reference is all points that were ever added to a slide, and what else it
// has. It says the same as the chapter, by asking each of them.
type reference struct {
	fn         int
	span, time int64
	added      []api.Point
}

// over is the value that is over.
var over = api.Value{Over: true}

// point returns a point.
func point(time, n int64) api.Point {
	return api.Point{Time: time, Value: api.Value{N: n}}
}

// push says what Push says.
func (r *reference) push(time, n int64) api.Errno {
	if time < 1 || time > api.MaxTime {
		return api.ErrArg
	}
	if time <= r.time {
		return api.ErrLate
	}
	r.added = append(r.added, point(time, n))
	r.time = time
	return api.OK
}

// advance says what Go says.
func (r *reference) advance(time int64) api.Errno {
	if time < 0 || time > api.MaxTime {
		return api.ErrArg
	}
	if time < r.time {
		return api.ErrLate
	}
	r.time = time
	return api.OK
}

// points returns the points that were not removed: as the time never decreases,
// they are those above the last time less the span.
func (r reference) points() (l []api.Point) {
	for _, p := range r.added {
		if p.Time > r.time-r.span {
			l = append(l, p)
		}
	}
	return l
}

// value says what Value says, in exact integers.
func (r reference) value() (api.Value, bool) {
	l := r.points()
	if len(l) == 0 {
		return api.Value{}, false
	}
	sum, rise, low, high := new(big.Int), new(big.Int), l[0].N, l[0].N
	for i, p := range l {
		sum.Add(sum, big.NewInt(p.N))
		low, high = min(low, p.N), max(high, p.N)
		if i > 0 {
			rise.Add(rise, big.NewInt(p.N))
			if p.N >= l[i-1].N {
				rise.Sub(rise, big.NewInt(l[i-1].N))
			}
		}
	}
	return []api.Value{{}, exact(sum), {N: int64(len(l))}, {N: low}, {N: high}, {N: l[len(l)-1].N}, exact(rise)}[r.fn], true
}

// exact returns the value of an integer.
func exact(x *big.Int) api.Value {
	if !x.IsInt64() {
		return over
	}
	return api.Value{N: x.Int64()}
}

// bytes says what Bytes says.
func (r reference) bytes() string {
	return written(int64(r.fn), r.span, r.time, r.points()...)
}

// written returns the bytes of a function, a span, a time and points, also if no
// slide has them.
func written(fn, span, time int64, l ...api.Point) string {
	var b strings.Builder
	b.WriteString(number(uint64(fn)) + number(uint64(span)) + number(uint64(time)) + number(uint64(len(l))))
	before := int64(0)
	for _, p := range l {
		b.WriteString(number(uint64(p.Time-before)) + signed(p.N))
		before = p.Time
	}
	return b.String()
}

// number returns a number as the bytes of it.
func number(x uint64) string {
	s := strings.TrimRight(string(binary.LittleEndian.AppendUint64(nil, x)), "\x00")
	return string([]byte{byte(len(s))}) + s
}

// signed returns a signed number as the bytes of it.
func signed(x int64) string {
	if x < 0 {
		return number(^(uint64(x) << 1))
	}
	return number(uint64(x) << 1)
}

// A pair is a slide, and what it should be.
type pair struct {
	s *slide.Slide
	r reference
}

// made returns a slide without points, and its reference.
func made(t *testing.T, fn int, span int64) *pair {
	t.Helper()
	s, e := slide.New(fn, span)
	if e != api.OK || s == nil {
		t.Fatalf("new of %d, %d: a slide %t, error %d", fn, span, s != nil, e)
	}
	return &pair{s, reference{fn: fn, span: span}}
}

// filled returns a slide with some points, and its reference.
func filled(t *testing.T, fn int, span int64, l ...api.Point) *pair {
	t.Helper()
	x := made(t, fn, span)
	for _, p := range l {
		x.push(t, p.Time, p.N)
	}
	return x
}

// push pushes to both.
func (x *pair) push(t *testing.T, time, n int64) {
	t.Helper()
	if e, want := x.s.Push(time, n), x.r.push(time, n); e != want {
		t.Fatalf("push of %d at %d: error %d, not %d", n, time, e, want)
	}
}

// advance lets both go to a time.
func (x *pair) advance(t *testing.T, time int64) {
	t.Helper()
	if e, want := x.s.Go(time), x.r.advance(time); e != want {
		t.Fatalf("go to %d: error %d, not %d", time, e, want)
	}
}

// again replaces the slide by the one that is read from its bytes.
func (x *pair) again(t *testing.T) {
	t.Helper()
	x.s = read(t, string(x.s.Bytes()))
}

// checkValue checks the value of the slide, also against what batch returns for
// its points.
func (x *pair) checkValue(t *testing.T) {
	t.Helper()
	v, is := x.s.Value()
	if want, wantIs := x.r.value(); v != want || is != wantIs {
		t.Fatalf("value of %d, %v: %v %t, not %v %t", x.r.fn, x.r.points(), v, is, want, wantIs)
	}
	if want, wantIs := batch.Window(x.r.fn, x.s.Points()); v != want || is != wantIs {
		t.Fatalf("value of %d, %v: %v %t, but batch returns %v %t", x.r.fn, x.r.points(), v, is, want, wantIs)
	}
}

// check checks all that the slide has.
func (x *pair) check(t *testing.T) {
	t.Helper()
	x.checkValue(t)
	want := x.r.points()
	if l := x.s.Points(); !slices.Equal(l, want) {
		t.Fatalf("points %v, not %v", l, want)
	}
	if x.s.Len() != len(want) || x.s.Time() != x.r.time {
		t.Fatalf("%d points, time %d; not %d, %d", x.s.Len(), x.s.Time(), len(want), x.r.time)
	}
	if b := string(x.s.Bytes()); b != x.r.bytes() {
		t.Fatalf("bytes %s, not %s", short(b), short(x.r.bytes()))
	}
}

// read returns the slide that is read from some bytes.
func read(t *testing.T, b string) *slide.Slide {
	t.Helper()
	s, e := slide.Read([]byte(b))
	if e != api.OK || s == nil {
		t.Fatalf("read of %s: a slide %t, error %d", short(b), s != nil, e)
	}
	return s
}

// bad checks that some bytes are not those of a slide.
func bad(t *testing.T, b string) {
	t.Helper()
	if s, e := slide.Read([]byte(b)); s != nil || e != api.ErrBad {
		t.Errorf("read of %s: a slide %t, error %d", short(b), s != nil, e)
	}
}

// functions returns all functions of a window.
func functions() []int {
	return []int{api.FnSum, api.FnCount, api.FnMin, api.FnMax, api.FnLast, api.FnIncrease}
}

// short returns a text in quotes, cut off if it is long.
func short(s string) string {
	return fmt.Sprintf("%.200q", s)
}

// A dice gives numbers that look like chance.
type dice uint64

// of returns a number from 0 to n - 1.
func (d *dice) of(n int) int {
	*d = *d*6364136223846793005 + 1442695040888963407
	return int(*d >> 33 % dice(n))
}

// number returns one of few numbers around 0, or, for none, one that may be
// very great.
func (d *dice) number(few int) int64 {
	if few > 0 {
		return int64(d.of(few) - few/2)
	}
	ends := []int64{math.MinInt64, math.MinInt64 + 1, math.MinInt64 / 2, -1, 0, 1, math.MaxInt64 / 2, math.MaxInt64 - 1, math.MaxInt64}
	return ends[d.of(len(ends))]
}
