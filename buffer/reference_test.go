package buffer_test

import (
	"cmp"
	"maps"
	"slices"
	"testing"

	"waterwheel/api"
	"waterwheel/buffer"
)

// The reference says the same as the chapter, by a map from times to numbers
// and by asking each of its points.
type reference struct {
	floor   int64
	numbers map[int64]int64
}

// newReference returns a reference without points.
func newReference() *reference {
	return &reference{numbers: map[int64]int64{}}
}

// put says what Put says.
func (r *reference) put(time, n int64) api.Errno {
	_, there := r.numbers[time]
	switch {
	case time < 1, time > api.MaxTime:
		return api.ErrArg
	case time <= r.floor:
		return api.ErrLate
	case there:
		return api.ErrThere
	case len(r.numbers) == api.MaxPoints:
		return api.ErrLong
	}
	r.numbers[time] = n
	return api.OK
}

// trim says what Trim says.
func (r *reference) trim(floor int64) (int, api.Errno) {
	if floor < r.floor {
		return 0, api.ErrArg
	}
	before := len(r.numbers)
	r.floor = floor
	maps.DeleteFunc(r.numbers, func(time, _ int64) bool { return time <= floor })
	return before - len(r.numbers), api.OK
}

// points returns all points, in order.
func (r *reference) points() (l []api.Point) {
	for time, n := range r.numbers {
		l = append(l, point(time, n))
	}
	slices.SortFunc(l, func(a, b api.Point) int { return cmp.Compare(a.Time, b.Time) })
	return l
}

// point returns a point.
func point(time, n int64) api.Point {
	return api.Point{Time: time, Value: api.Value{N: n}}
}

// within returns the points of l above from, up to to.
func within(l []api.Point, from, to int64) (in []api.Point) {
	for _, p := range l {
		if p.Time > from && p.Time <= to {
			in = append(in, p)
		}
	}
	return in
}

// check checks everything that b returns, at these times, against what its
// points and its floor should be.
func check(t *testing.T, b *buffer.Buffer, l []api.Point, floor int64, times ...int64) {
	t.Helper()
	if b.Len() != len(l) || b.Floor() != floor {
		t.Fatalf("%d points above %d, not %d above %d", b.Len(), b.Floor(), len(l), floor)
	}
	if all := b.Points(); !slices.Equal(all, l) {
		t.Fatalf("%v, not %v", all, l)
	}
	var begin, end int64
	if len(l) > 0 {
		begin, end = l[0].Time, l[len(l)-1].Time
	}
	if first, last := b.Ends(); first != begin || last != end {
		t.Fatalf("from %d to %d, not from %d to %d", first, last, begin, end)
	}
	for _, from := range times {
		checkOne(t, b, l, from)
		for _, to := range times {
			if in, want := b.Range(from, to), within(l, from, to); !slices.Equal(in, want) {
				t.Fatalf("from %d to %d: %v, not %v", from, to, in, want)
			}
		}
	}
}

// checkOne checks what b returns for a single time.
func checkOne(t *testing.T, b *buffer.Buffer, l []api.Point, time int64) {
	t.Helper()
	var want api.Point
	for _, p := range l {
		if p.Time <= time {
			want = p
		}
	}
	some := want != api.Point{}
	if p, is := b.Last(time); p != want || is != some {
		t.Fatalf("last of %d: %v %t, not %v %t", time, p, is, want, some)
	}
	if want.Time != time || !some {
		want, some = api.Point{}, false
	}
	if n, is := b.At(time); n != want.N || is != some {
		t.Fatalf("at %d: %d %t, not %d %t", time, n, is, want.N, some)
	}
}

// filled returns a buffer with points of some times, whose numbers are numeral
// of them.
func filled(t *testing.T, times ...int64) *buffer.Buffer {
	t.Helper()
	b := buffer.New()
	for _, time := range times {
		if e := b.Put(time, numeral(time)); e != api.OK {
			t.Fatalf("put of %d: error %d", time, e)
		}
	}
	return b
}

// numeral returns a number that tells which time it is for, as great as numbers
// may be.
func numeral(time int64) int64 {
	return time * 0x1D8AF066FBC7D2B3
}

// upward returns the times from first to last.
func upward(first, last int64) (l []int64) {
	for time := first; time <= last; time++ {
		l = append(l, time)
	}
	return l
}

// A dice gives numbers that look like chance.
type dice uint64

// of returns a number from 0 to n - 1.
func (d *dice) of(n int) int {
	*d = *d*6364136223846793005 + 1442695040888963407
	return int(*d >> 33 % dice(n))
}

// shuffled returns l in another order.
func (d *dice) shuffled(l []int64) []int64 {
	l = slices.Clone(l)
	for i := range l {
		j := d.of(i + 1)
		l[i], l[j] = l[j], l[i]
	}
	return l
}

// orders returns the same times in some orders.
func orders(l []int64) (all [][]int64) {
	down := slices.Clone(l)
	slices.Reverse(down)
	var sides []int64
	for i := range (len(l) + 1) / 2 {
		sides = append(sides, l[i])
		if j := len(l) - 1 - i; j > i {
			sides = append(sides, l[j])
		}
	}
	inside := slices.Clone(sides)
	slices.Reverse(inside)
	d := dice(len(l))
	return [][]int64{slices.Clone(l), down, sides, inside, d.shuffled(l), d.shuffled(l)}
}
