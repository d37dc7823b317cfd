package slide_test

import (
	"math"
	"slices"
	"testing"

	"waterwheel/api"
	"waterwheel/slide"
)

// The examples of the chapter.
func TestExamples(t *testing.T) {
	s := filled(t, api.FnMin, 5, point(1, 7), point(2, 4), point(4, 9)).s
	if v, is := s.Value(); v != (api.Value{N: 4}) || !is {
		t.Errorf("at 4: %v %t", v, is)
	}
	if e := s.Go(7); e != api.OK {
		t.Errorf("go 7: error %d", e)
	}
	if v, is := s.Value(); v != (api.Value{N: 9}) || !is {
		t.Errorf("at 7: %v %t", v, is)
	}
	if e := s.Go(9); e != api.OK {
		t.Errorf("go 9: error %d", e)
	}
	if v, is := s.Value(); v != (api.Value{}) || is {
		t.Errorf("at 9: %v %t", v, is)
	}
	if e := s.Push(9, 1); e != api.ErrLate {
		t.Errorf("push at 9: error %d", e)
	}
}

// P14.1: which functions and which spans there are.
func TestNew(t *testing.T) {
	spans := map[int64]bool{
		math.MinInt64: false, -1: false, 0: false, 1: true, 2: true, 1 << 20: true, api.MaxSpan - 1: true, api.MaxSpan: true,
		api.MaxSpan + 1: false, 1<<32 + 1: false, api.MaxTime: false, math.MaxInt64: false,
	}
	fns := []int{math.MinInt, math.MinInt + api.FnSum, -1, 0, 7, 8, 255, 256 + api.FnSum, 1<<32 + api.FnMin, math.MaxInt}
	for _, fn := range append(fns, functions()...) {
		for span, good := range spans {
			if good && slices.Contains(functions(), fn) {
				made(t, fn, span).check(t)
				continue
			}
			if s, e := slide.New(fn, span); s != nil || e != api.ErrArg {
				t.Errorf("new of %d, %d: a slide %t, error %d", fn, span, s != nil, e)
			}
		}
	}
}

// times returns times around those given, and at the limits of times and of
// numbers.
func times(near ...int64) []int64 {
	l := []int64{math.MinInt64, math.MinInt64 + 1, -api.MaxTime, -1, 0, 1, 2, api.MaxTime - 1, api.MaxTime, api.MaxTime + 1, math.MaxInt64 - 1, math.MaxInt64}
	for _, n := range near {
		l = append(l, n-1, n, n+1)
	}
	return l
}

// P14.1: each error of Push and Go, and which one comes first. A call with an
// error changes nothing.
func TestErrors(t *testing.T) {
	for _, fn := range functions() {
		for _, at := range []int64{0, 1, 2, 50, 1 << 32, api.MaxTime - 1, api.MaxTime} {
			for _, time := range times(at) {
				x := made(t, fn, 10)
				if at > 0 {
					x.push(t, at, 3)
				}
				x.push(t, time, 8)
				x.check(t)
				x = made(t, fn, 10)
				if at > 3 {
					x.push(t, at-3, 3)
				}
				x.advance(t, at)
				x.advance(t, time)
				x.check(t)
				x.push(t, time, 5)
				x.check(t)
			}
		}
	}
}

// P14.1: the errors as the chapter gives them, without the reference.
func TestErrorNumbers(t *testing.T) {
	s := made(t, api.FnSum, 10).s
	for _, c := range []struct {
		push bool
		time int64
		want api.Errno
	}{
		{true, 0, api.ErrArg}, {true, -1, api.ErrArg}, {false, -1, api.ErrArg}, {false, 0, api.OK}, {false, 0, api.OK},
		{true, 1, api.OK}, {true, 1, api.ErrLate}, {false, 1, api.OK}, {false, 0, api.ErrLate}, {true, 0, api.ErrArg},
		{false, 6, api.OK}, {true, 5, api.ErrLate}, {true, 6, api.ErrLate}, {false, 5, api.ErrLate}, {false, 6, api.OK}, {true, 7, api.OK},
		{true, api.MaxTime + 1, api.ErrArg}, {false, api.MaxTime + 1, api.ErrArg}, {true, api.MaxTime, api.OK},
		{true, api.MaxTime, api.ErrLate}, {false, api.MaxTime, api.OK}, {false, api.MaxTime - 1, api.ErrLate}, {false, -1, api.ErrArg},
	} {
		call := s.Go
		if c.push {
			call = func(time int64) api.Errno { return s.Push(time, 4) }
		}
		if e := call(c.time); e != c.want {
			t.Errorf("push %t, at %d: error %d, not %d", c.push, c.time, e, c.want)
		}
	}
}

// P14.1, P14.2: points at each set of few times, for each small span, from one
// time to the next.
func TestEveryWindow(t *testing.T) {
	numbers := []int64{3, -1, 3, 7, 0, -4, 7}
	for _, fn := range functions() {
		for span := int64(1); span < 9; span++ {
			for set := range 1 << len(numbers) {
				x := made(t, fn, span)
				for i, n := range numbers {
					if time := int64(i + 1); set>>i&1 == 1 {
						x.push(t, time, n)
					} else if i%2 == set%2 {
						x.advance(t, time)
					}
					x.check(t)
				}
				for time := int64(len(numbers)); time < 17; time += 1 + int64(set%2) {
					x.advance(t, time)
					x.check(t)
				}
			}
		}
	}
}

// P14.1: a point is removed when the time less the span is at it, and not one
// time earlier, also at the limits of spans and times.
func TestEdge(t *testing.T) {
	for _, fn := range functions() {
		for _, span := range []int64{1, 2, 3, 100, 1 << 20, api.MaxSpan - 1, api.MaxSpan} {
			for _, time := range []int64{1, 2, 77, api.MaxSpan, api.MaxSpan + 1, 1 << 32, api.MaxTime - span} {
				x := filled(t, fn, span, point(time, 6))
				x.advance(t, time+span-1)
				x.check(t)
				if n := x.s.Len(); n != 1 {
					t.Fatalf("span %d, at %d: %d points just before the end", span, time, n)
				}
				y := filled(t, fn, span, point(time, 6))
				for _, way := range []func(){
					func() { x.advance(t, time+span) }, func() { y.push(t, time+span, -2) },
				} {
					way()
					x.check(t)
					y.check(t)
				}
				if x.s.Len() != 0 || y.s.Len() != 1 {
					t.Fatalf("span %d, at %d: %d and %d points at the end", span, time, x.s.Len(), y.s.Len())
				}
			}
		}
	}
}

// P14.1: one step removes many points, all but the new one, or all.
func TestFar(t *testing.T) {
	for _, fn := range functions() {
		for n := int64(1); n < 80; n += 1 + n/6 {
			for gone := int64(0); gone <= n; gone++ {
				x, y := made(t, fn, 100), made(t, fn, 100)
				for i := range n {
					x.push(t, i+1, i*i*7%23-9)
					y.push(t, i+1, i*i*5%19-9)
				}
				x.advance(t, 100+gone)
				y.push(t, 100+gone+1, 3)
				x.check(t)
				y.check(t)
			}
		}
	}
}

// P14.2: the greatest and the least numbers: what is over is a number again once
// the window has advanced.
func TestOver(t *testing.T) {
	const least, most = math.MinInt64, math.MaxInt64
	for _, c := range []struct {
		fn   int
		l    []int64
		want []api.Value
	}{
		{api.FnSum, []int64{most, 1, -1, least, least, 0, 5}, []api.Value{{N: most}, over, {N: most}, {N: least}, over, over, {N: least + 5}}},
		{api.FnIncrease, []int64{least, most, least, 0, most, most, 4}, []api.Value{{}, over, {N: most}, {}, over, {N: most}, {N: 4}}},
		{api.FnMin, []int64{most, least, most, most, most}, []api.Value{{N: most}, {N: least}, {N: least}, {N: least}, {N: most}}},
		{api.FnMax, []int64{least, most, least, least, least}, []api.Value{{N: least}, {N: most}, {N: most}, {N: most}, {N: least}}},
		{api.FnLast, []int64{least, most}, []api.Value{{N: least}, {N: most}}},
		{api.FnCount, []int64{least, most, most, least}, []api.Value{{N: 1}, {N: 2}, {N: 3}, {N: 3}}},
	} {
		x := made(t, c.fn, 3)
		for i, n := range c.l {
			x.push(t, int64(i+1), n)
			if v, is := x.s.Value(); v != c.want[i] || !is {
				t.Errorf("%d of %v: %v %t, not %v", c.fn, c.l[:i+1], v, is, c.want[i])
			}
			x.check(t)
		}
	}
}

// P14.2: numbers that are equal leave one by one.
func TestEqual(t *testing.T) {
	for _, fn := range functions() {
		x := made(t, fn, 4)
		for i, n := range []int64{2, 2, 5, 5, 2, 2, 2, 2, 2, -1, -1, 2, -1, 5} {
			x.push(t, int64(i+1), n)
			x.check(t)
		}
		for time := int64(14); time < 20; time++ {
			x.advance(t, time)
			x.check(t)
		}
	}
}

// Rule 7: a nil pointer, a zero value and a copy are no slides.
func TestInvalid(t *testing.T) {
	for _, fn := range functions() {
		x := filled(t, fn, 10, point(2, 3), point(4, 1))
		copied := *x.s
		for name, s := range map[string]*slide.Slide{"nil": nil, "zero": {}, "copy": &copied} {
			for _, time := range times(2, 4, 20) {
				if e := s.Push(time, 1); e != api.ErrNil {
					t.Errorf("%s: push at %d: error %d", name, time, e)
				}
				if e := s.Go(time); e != api.ErrNil {
					t.Errorf("%s: go to %d: error %d", name, time, e)
				}
			}
			if v, is := s.Value(); v != (api.Value{}) || is {
				t.Errorf("%s: value: %v %t", name, v, is)
			}
			if s.Len() != 0 || s.Time() != 0 || len(s.Points()) != 0 || len(s.Bytes()) != 0 {
				t.Errorf("%s: %d points %v, time %d, bytes %v", name, s.Len(), s.Points(), s.Time(), s.Bytes())
			}
		}
		x.check(t)
	}
}

// Rule 6: slides do not depend on each other, nor on calls of one another.
func TestApart(t *testing.T) {
	for _, fn := range functions() {
		x, y := filled(t, fn, 10, point(2, 3), point(4, 1)), filled(t, fn, 10, point(2, 3))
		z := &pair{read(t, string(x.s.Bytes())), x.r}
		z.r.added = slices.Clone(z.r.added)
		x.push(t, 12, 0)
		y.advance(t, 15)
		z.push(t, 5, -6)
		x.check(t)
		y.check(t)
		z.check(t)
	}
}

// spoil overwrites a list and its spare capacity.
func spoil[E any](l []E, by E) {
	l = l[:cap(l)]
	for i := range l {
		l[i] = by
	}
}

// Rule 3: what Points and Bytes return is new memory, and stays as it was; the
// bytes of Read are neither changed nor kept.
func TestMemory(t *testing.T) {
	for _, fn := range functions() {
		for span := int64(1); span < 40; span += 3 {
			x := made(t, fn, span)
			for time := range int64(30) {
				x.push(t, time+1, time*5%7)
				x.checkMemory(t)
			}
			x.advance(t, 30+span/2)
			x.checkMemory(t)
		}
	}
}

// checkMemory checks that nothing that was returned or given is kept.
func (x *pair) checkMemory(t *testing.T) {
	t.Helper()
	l, again, b, sameBytes := x.s.Points(), x.s.Points(), x.s.Bytes(), x.s.Bytes()
	more := append(x.s.Bytes(), 9, 9)
	given := more[:len(b)]
	s, e := slide.Read(given)
	if e != api.OK || string(more) != x.r.bytes()+"\x09\x09" {
		t.Fatalf("the bytes changed, or error %d", e)
	}
	spoil(l, point(-1, 99))
	spoil(b, 255)
	spoil(given, 255)
	if want := x.r.points(); !slices.Equal(again, want) || string(sameBytes) != x.r.bytes() {
		t.Errorf("the other results changed: %v, %v", again, sameBytes)
	}
	x.check(t)
	other := pair{s, x.r}
	other.check(t)
	other.s.Push(x.r.time+1, 7)
	other.s.Go(x.r.time + x.r.span)
	if want := x.r.points(); !slices.Equal(again, want) || string(sameBytes) != x.r.bytes() {
		t.Errorf("the other results changed later: %v, %v", again, sameBytes)
	}
	x.check(t)
}
