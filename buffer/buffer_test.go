package buffer_test

import (
	"math"
	"slices"
	"testing"

	"waterwheel/api"
	"waterwheel/buffer"
)

// P11.1, P11.2: the examples of the chapter.
func TestExamples(t *testing.T) {
	b := buffer.New()
	for _, time := range []int64{5, 3, 9} {
		if e := b.Put(time, 10*time); e != api.OK {
			t.Errorf("put of %d: error %d", time, e)
		}
	}
	if e := b.Put(3, 1); e != api.ErrThere {
		t.Errorf("second put of 3: error %d", e)
	}
	if l := b.Range(3, 9); !slices.Equal(l, []api.Point{point(5, 50), point(9, 90)}) {
		t.Errorf("range from 3 to 9: %v", l)
	}
	if n, e := b.Trim(5); n != 2 || e != api.OK {
		t.Errorf("trim to 5: %d, error %d", n, e)
	}
	if e := b.Put(4, 1); e != api.ErrLate {
		t.Errorf("put of 4: error %d", e)
	}
	if n, e := b.Trim(4); n != 0 || e != api.ErrArg {
		t.Errorf("trim to 4: %d, error %d", n, e)
	}
	check(t, b, []api.Point{point(9, 90)}, 5, upward(-1, 11)...)
}

// P11.1, P11.2: a new buffer has no points, and its floor is 0.
func TestNew(t *testing.T) {
	check(t, buffer.New(), nil, 0, math.MinInt64, -1, 0, 1, api.MaxTime, math.MaxInt64)
}

// P11.1, P11.2: all short lists of puts and trims.
func TestSmall(t *testing.T) {
	const calls, times = 5, 4
	var visit func(l []int)
	visit = func(l []int) {
		if len(l) < calls {
			for call := range 2*times + 3 {
				visit(append(l[:len(l):len(l)], call))
			}
			return
		}
		b, r := buffer.New(), newReference()
		for i, call := range l {
			apply(t, b, r, call <= times+1, int64(call%(times+2)), int64(i-2))
		}
		check(t, b, r.points(), r.floor, upward(-1, times+1)...)
	}
	visit(nil)
}

// apply applies a put or a trim to b and to r, and compares what they return.
func apply(t *testing.T, b *buffer.Buffer, r *reference, isPut bool, time, n int64) {
	t.Helper()
	if isPut {
		if e, want := b.Put(time, n), r.put(time, n); e != want {
			t.Fatalf("put of %d: error %d, not %d", time, e, want)
		}
		return
	}
	gone, e := b.Trim(time)
	if want, wrong := r.trim(time); gone != want || e != wrong {
		t.Fatalf("trim to %d: %d, error %d, not %d, error %d", time, gone, e, want, wrong)
	}
}

// P11.1, P11.2: many points, put and removed in ways that look like chance.
func TestChance(t *testing.T) {
	for seed := range 40 {
		d := dice(seed)
		b, r, width := buffer.New(), newReference(), 50+d.of(3000)
		for i := range 3000 {
			time := r.floor + int64(d.of(width)-3)
			isPut := d.of(300) > 0
			if !isPut {
				time = r.floor + int64(d.of(width/4)-1)
			}
			apply(t, b, r, isPut, time, numeral(int64(i)))
			if i%100 == 0 {
				at := func() int64 { return r.floor + int64(d.of(width)) }
				check(t, b, r.points(), r.floor, r.floor-1, r.floor, at(), at(), at(), at(), math.MaxInt64)
			}
		}
	}
}

// P11.1: which times may be put, and that ErrArg comes before ErrLate.
func TestPutTimes(t *testing.T) {
	wrong := []int64{math.MinInt64, -api.MaxTime, -1, 0, api.MaxTime + 1, math.MaxInt64}
	b := filled(t, api.MaxTime, 1, api.MaxTime-1, 2)
	for _, floor := range []int64{0, 1, 1000, api.MaxTime, math.MaxInt64} {
		if _, e := b.Trim(floor); e != api.OK {
			t.Fatalf("trim to %d: error %d", floor, e)
		}
		for _, time := range wrong {
			if e := b.Put(time, 1); e != api.ErrArg {
				t.Errorf("put of %d above %d: error %d", time, floor, e)
			}
		}
	}
}

// P11.1: a time at or below the floor is late, also where there was a point.
func TestPutLate(t *testing.T) {
	b := filled(t, 5, 10, 15)
	b.Trim(10)
	for time := int64(1); time <= 10; time++ {
		if e := b.Put(time, 1); e != api.ErrLate {
			t.Errorf("put of %d: error %d", time, e)
		}
	}
	if e := b.Put(11, 7); e != api.OK {
		t.Errorf("put of 11: error %d", e)
	}
	check(t, b, []api.Point{point(11, 7), point(15, numeral(15))}, 10, upward(8, 17)...)
}

// P11.1: a point that is there is not replaced, and all numbers can be put.
func TestPutNumbers(t *testing.T) {
	numbers := []int64{math.MinInt64, math.MinInt64 + 1, -1, 0, 1, math.MaxInt64 - 1, math.MaxInt64}
	b := buffer.New()
	var l []api.Point
	for i, n := range numbers {
		time := int64(3 * (i + 1))
		if e := b.Put(time, n); e != api.OK {
			t.Errorf("put of %d: error %d", n, e)
		}
		for _, other := range numbers {
			if e := b.Put(time, other); e != api.ErrThere {
				t.Errorf("put of %d after %d: error %d", other, n, e)
			}
		}
		l = append(l, point(time, n))
	}
	check(t, b, l, 0, upward(0, 25)...)
}

// P11.1: a buffer has at most MaxPoints points, in whatever order they come,
// and has room again once it was trimmed.
func TestFull(t *testing.T) {
	const step = 1 << 20
	var times []int64
	for i := range int64(api.MaxPoints) {
		times = append(times, 2+i*step)
	}
	var want []api.Point
	for _, time := range times {
		want = append(want, point(time, numeral(time)))
	}
	for _, order := range orders(times) {
		b := filled(t, order...)
		checkFull(t, b, want, 0)
		if n, e := b.Trim(2); n != 1 || e != api.OK {
			t.Fatalf("trim to 2: %d, error %d", n, e)
		}
		if e := b.Put(3, numeral(3)); e != api.OK {
			t.Fatalf("put of 3: error %d", e)
		}
		checkFull(t, b, slices.Concat([]api.Point{point(3, numeral(3))}, want[1:]), 2)
		if n, e := b.Trim(math.MaxInt64); n != api.MaxPoints || e != api.OK {
			t.Fatalf("trim to the end: %d, error %d", n, e)
		}
		check(t, b, nil, math.MaxInt64, 0, 2, math.MaxInt64)
	}
}

// checkFull checks what a full buffer with these points returns, and which
// error comes before which.
func checkFull(t *testing.T, b *buffer.Buffer, l []api.Point, floor int64) {
	t.Helper()
	for time, want := range map[int64]api.Errno{
		-1:                   api.ErrArg,
		0:                    api.ErrArg,
		api.MaxTime + 1:      api.ErrArg,
		4:                    api.ErrLong,
		l[500].Time + 1:      api.ErrLong,
		api.MaxTime:          api.ErrLong,
		l[0].Time:            api.ErrThere,
		l[len(l)/2].Time:     api.ErrThere,
		l[len(l)-1].Time:     api.ErrThere,
		l[len(l)-1].Time + 1: api.ErrLong,
	} {
		if e := b.Put(time, 1); e != want {
			t.Errorf("put of %d: error %d, not %d", time, e, want)
		}
	}
	if e := b.Put(floor, 1); floor > 0 && e != api.ErrLate {
		t.Errorf("put of the floor: error %d", e)
	}
	check(t, b, l, floor, 0, l[0].Time, l[1].Time-1, l[3000].Time, l[40000].Time+1, api.MaxTime)
}

// P11.1: a trim to each floor removes the points up to it, and only them.
func TestTrim(t *testing.T) {
	times := upward(10, 600)
	for floor := int64(0); floor <= 610; floor++ {
		b, r := filled(t, times...), newReference()
		for _, time := range times {
			r.put(time, numeral(time))
		}
		apply(t, b, r, false, floor, 0)
		apply(t, b, r, false, floor-1, 0)
		apply(t, b, r, false, floor, 0)
		check(t, b, r.points(), floor, floor-1, floor, floor+1, floor+70, 600, 601)
		for time := floor - 1; time < floor+3; time++ {
			apply(t, b, r, true, time, numeral(time))
		}
		check(t, b, r.points(), floor, floor-1, floor, floor+1, floor+70, 600, 601)
	}
}

// P11.1: a trim below the floor changes nothing, and the floor has no limit
// above.
func TestTrimFloors(t *testing.T) {
	b := filled(t, 1, 5, api.MaxTime)
	for _, floor := range []int64{math.MinInt64, -api.MaxTime, -1} {
		if n, e := b.Trim(floor); n != 0 || e != api.ErrArg {
			t.Errorf("trim to %d: %d, error %d", floor, n, e)
		}
	}
	for _, step := range []struct {
		floor int64
		n     int
		e     api.Errno
	}{
		{0, 0, api.OK},
		{5, 2, api.OK},
		{4, 0, api.ErrArg},
		{math.MinInt64, 0, api.ErrArg},
		{5, 0, api.OK},
		{api.MaxTime - 1, 0, api.OK},
		{api.MaxTime, 1, api.OK},
		{api.MaxTime + 1, 0, api.OK},
		{api.MaxTime, 0, api.ErrArg},
		{math.MaxInt64, 0, api.OK},
		{math.MaxInt64 - 1, 0, api.ErrArg},
	} {
		if n, e := b.Trim(step.floor); n != step.n || e != step.e {
			t.Errorf("trim to %d: %d, error %d", step.floor, n, e)
		}
	}
	check(t, b, nil, math.MaxInt64, 0, 5, math.MaxInt64)
}

// P11.2: times at their limits.
func TestTimes(t *testing.T) {
	limits := []int64{math.MinInt64, math.MinInt64 + 1, -1, 0, 1, 2, 3, 99, 100, 101, api.MaxTime - 1, api.MaxTime, api.MaxTime + 1, math.MaxInt64 - 1, math.MaxInt64}
	for _, times := range [][]int64{{1}, {100}, {api.MaxTime}, {1, 2, 100, api.MaxTime}, append(upward(2, 300), api.MaxTime)} {
		var l []api.Point
		for _, time := range times {
			l = append(l, point(time, numeral(time)))
		}
		check(t, filled(t, times...), l, 0, limits...)
	}
}

// Rule 7: a nil pointer, a zero value and a copy are no buffers.
func TestInvalid(t *testing.T) {
	made := filled(t, 1, 2)
	made.Trim(1)
	copied := *made
	for name, b := range map[string]*buffer.Buffer{"nil": nil, "zero": {}, "copy": &copied} {
		for _, time := range []int64{math.MinInt64, 0, 1, 2, math.MaxInt64} {
			if e := b.Put(time, 1); e != api.ErrNil {
				t.Errorf("%s: put of %d: error %d", name, time, e)
			}
			if n, e := b.Trim(time); n != 0 || e != api.ErrNil {
				t.Errorf("%s: trim to %d: %d, error %d", name, time, n, e)
			}
		}
		check(t, b, nil, 0, math.MinInt64, 0, 1, 2, math.MaxInt64)
	}
	check(t, made, []api.Point{point(2, numeral(2))}, 1, 0, 1, 2, 3)
}

// Rule 3: what is returned is new memory, and stays as it was.
func TestMemory(t *testing.T) {
	b := filled(t, upward(1, 200)...)
	lists := [][]api.Point{b.Points(), b.Points(), b.Range(10, 20), b.Range(10, 20), b.Range(0, 64), b.Range(0, math.MaxInt64)}
	var before [][]api.Point
	for _, l := range lists {
		before = append(before, slices.Clone(l))
	}
	for i, l := range lists {
		l = l[:cap(l)]
		for j := range l {
			l[j] = point(-1, -1)
		}
		for k, other := range lists[i+1:] {
			if !slices.Equal(other, before[i+1+k]) {
				t.Fatalf("list %d changed with list %d", i+1+k, i)
			}
		}
	}
	if l := b.Points(); !slices.Equal(l, before[0]) {
		t.Errorf("the buffer changed: %v", l)
	}
	l := b.Points()
	b.Trim(100)
	b.Put(300, 1)
	if !slices.Equal(l, before[0]) {
		t.Errorf("the list changed: %v", l)
	}
}

// Rule 6: two buffers do not depend on each other.
func TestApart(t *testing.T) {
	a, b := filled(t, 1, 2, 3), filled(t, 2, 4)
	a.Trim(2)
	check(t, a, []api.Point{point(3, numeral(3))}, 2, upward(0, 5)...)
	check(t, b, []api.Point{point(2, numeral(2)), point(4, numeral(4))}, 0, upward(0, 5)...)
}
