package bag_test

import (
	"math"
	"slices"
	"testing"

	"waterwheel/api"
	"waterwheel/bag"
)

// The examples of the chapter.
func TestExamples(t *testing.T) {
	b := filled(t, values(3, 5, 3)...)
	if e := b.Take(of(3)); e != api.OK {
		t.Fatalf("take: error %d", e)
	}
	if v, is := b.Least(); v != of(3) || !is {
		t.Errorf("least: %v %t", v, is)
	}
	if n := b.Place(5); n != 1 {
		t.Errorf("place: %d", n)
	}
	b.Put(over)
	if v, is := b.Least(); v != over || !is {
		t.Errorf("least with over: %v %t", v, is)
	}
	b.Take(over)
	if v, is := b.Most(); v != of(5) || !is {
		t.Errorf("most: %v %t", v, is)
	}
	if e := b.Take(of(7)); e != api.ErrNone {
		t.Errorf("take of 7: error %d", e)
	}
}

// P13.1, P13.2: an empty bag.
func TestEmpty(t *testing.T) {
	b := bag.New()
	check(t, b, nil, reference(nil).near()...)
	for _, v := range append(values(math.MinInt64, 0, 1, math.MaxInt64), over) {
		if e := b.Take(v); e != api.ErrNone {
			t.Errorf("take of %v: error %d", v, e)
		}
	}
	check(t, b, nil, reference(nil).near()...)
	for _, v := range append(values(math.MinInt64, 0, math.MaxInt64), over) {
		b.Put(v)
		check(t, b, reference{v}, reference{v}.near()...)
		if e := b.Take(v); e != api.OK {
			t.Errorf("take of %v: error %d", v, e)
		}
		check(t, b, nil, v.N)
	}
}

// P13.1: a value that is not valid is neither put nor taken, also if over or its
// number is in the bag.
func TestNotValid(t *testing.T) {
	want := append(values(1, -1, math.MinInt64, math.MaxInt64, 0), over)
	b, empty := filled(t, want...), bag.New()
	for _, v := range invalids() {
		for _, x := range []*bag.Bag{b, empty} {
			if e := x.Put(v); e != api.ErrArg {
				t.Errorf("put of %v: error %d", v, e)
			}
			if e := x.Take(v); e != api.ErrArg {
				t.Errorf("take of %v: error %d", v, e)
			}
		}
	}
	check(t, b, want, want.near()...)
	check(t, empty, nil, want.near()...)
}

// P13.1: take of what is not in the bag changes nothing.
func TestTakeNone(t *testing.T) {
	want := values(-7, 0, 4, 4, 9, math.MaxInt64)
	b := filled(t, want...)
	for _, n := range want.near() {
		if want.count(of(n)) == 0 {
			if e := b.Take(of(n)); e != api.ErrNone {
				t.Errorf("take of %d: error %d", n, e)
			}
		}
	}
	if e := b.Take(over); e != api.ErrNone {
		t.Errorf("take of over: error %d", e)
	}
	check(t, b, want, want.near()...)
	for range 2 {
		if e := b.Take(of(4)); e != api.OK {
			t.Errorf("take of 4: error %d", e)
		}
	}
	if e := b.Take(of(4)); e != api.ErrNone {
		t.Errorf("take of 4 again: error %d", e)
	}
}

// P13.1, P13.2: calls that look like chance, against the reference, with few
// numbers that are there often, and with many.
func TestChance(t *testing.T) {
	for _, few := range []int{1, 2, 5, 12, 40, 300} {
		d, b, r := dice(few), bag.New(), reference{}
		for step := range 1500 {
			v := d.value(few)
			// There are times with more puts, and times with more takes.
			if d.of(5) > step/250%2*2 {
				b.Put(v)
				r.put(v)
			} else if e, want := b.Take(v), r.take(v); e != want {
				t.Fatalf("take of %v: error %d, not %d", v, e, want)
			}
			checkEnds(t, b, r)
			if step%25 == 0 {
				check(t, b, r, r.near()...)
			}
		}
	}
}

// P13.1, P13.2: numbers that are put in some order, and taken in another, until
// none is left.
func TestOrders(t *testing.T) {
	d := dice(5)
	up := make([]int64, 100)
	for i := range up {
		up[i] = int64(3*i - 150)
	}
	down := slices.Clone(up)
	slices.Reverse(down)
	orders := [][]int64{up, down, shuffled(&d, up), shuffled(&d, up)}
	for _, in := range orders {
		for _, out := range orders {
			b, r := filled(t, values(in...)...), values(in...)
			for i, n := range out {
				if i%10 == 0 {
					check(t, b, r, up...)
				}
				if e, want := b.Take(of(n)), r.take(of(n)); e != want {
					t.Fatalf("take of %d: error %d", n, e)
				}
				checkEnds(t, b, r)
			}
			check(t, b, nil, up...)
		}
	}
}

// P13.2: the least and the greatest numbers there are, and those beside them.
func TestLimits(t *testing.T) {
	l := values(math.MaxInt64, math.MinInt64, 0, math.MaxInt64-1, math.MinInt64+1, -1, 1, math.MinInt64, math.MaxInt64)
	r := reference{}
	b := bag.New()
	for _, v := range l {
		b.Put(v)
		r.put(v)
		check(t, b, r, l.near()...)
	}
	for _, v := range l {
		if e := b.Take(v); e != api.OK || r.take(v) != api.OK {
			t.Fatalf("take of %v: error %d", v, e)
		}
		check(t, b, r, l.near()...)
	}
}

// P13.2: over is counted, and hides the least and the greatest, but is in
// neither Place nor Counts.
func TestOver(t *testing.T) {
	b, r := bag.New(), reference{}
	for _, v := range []api.Value{over, of(0), over, of(-3), of(8), over, of(0)} {
		b.Put(v)
		r.put(v)
		check(t, b, r, r.near()...)
	}
	if n := b.Place(math.MaxInt64); n != 4 {
		t.Errorf("place: %d", n)
	}
	for range 3 {
		if v, is := b.Most(); v != over || !is {
			t.Errorf("most: %v %t", v, is)
		}
		if e := b.Take(over); e != api.OK || r.take(over) != api.OK {
			t.Errorf("take of over: error %d", e)
		}
		check(t, b, r, r.near()...)
	}
	if e := b.Take(over); e != api.ErrNone {
		t.Errorf("take of over: error %d", e)
	}
	check(t, b, values(0, -3, 8, 0), r.near()...)
	if n := b.Count(of(0)); n != 2 {
		t.Errorf("count of 0: %d", n)
	}
}

// P13.2: a great bag, filled from one end and taken from the other.
func TestGreat(t *testing.T) {
	const n = 1 << 17
	b := bag.New()
	for i := range int64(n) {
		b.Put(of(i))
		b.Put(of(i))
	}
	for i := int64(0); i < n; i += 1009 {
		if p, c := b.Place(i), b.Count(of(i)); p != int(2*i) || c != 2 {
			t.Fatalf("place of %d: %d, count %d", i, p, c)
		}
	}
	x := read(t, string(b.Bytes()))
	for i := range int64(n - 1) {
		b.Take(of(i))
		b.Take(of(i))
		if v, _ := b.Least(); v != of(i+1) {
			t.Fatalf("least: %v, not %d", v, i+1)
		}
	}
	check(t, b, values(n-1, n-1), 0, n-1, n)
	for i := int64(n - 1); i > 0; i-- {
		x.Take(of(i))
		x.Take(of(i))
		if v, _ := x.Most(); v != of(i-1) {
			t.Fatalf("most: %v, not %d", v, i-1)
		}
	}
	check(t, x, values(0, 0), -1, 0, 1)
}

// Rule 7: a nil pointer, a zero value and a copy are no bags.
func TestInvalid(t *testing.T) {
	made := filled(t, of(3), over, of(5))
	copied := *made
	for name, b := range map[string]*bag.Bag{"nil": nil, "zero": {}, "copy": &copied} {
		for _, v := range append(invalids(), of(3), of(0), over) {
			if e := b.Put(v); e != api.ErrNil {
				t.Errorf("%s: put of %v: error %d", name, v, e)
			}
			if e := b.Take(v); e != api.ErrNil {
				t.Errorf("%s: take of %v: error %d", name, v, e)
			}
			if n := b.Count(v); n != 0 {
				t.Errorf("%s: count of %v: %d", name, v, n)
			}
			if n := b.Place(9); n != 0 {
				t.Errorf("%s: place: %d", name, n)
			}
		}
		if v, is := b.Least(); v != (api.Value{}) || is {
			t.Errorf("%s: least: %v %t", name, v, is)
		}
		if v, is := b.Most(); v != (api.Value{}) || is {
			t.Errorf("%s: most: %v %t", name, v, is)
		}
		if b.Len() != 0 || len(b.Counts()) != 0 || len(b.Bytes()) != 0 {
			t.Errorf("%s: %d values, counts %v, bytes %v", name, b.Len(), b.Counts(), b.Bytes())
		}
	}
	check(t, made, reference{of(3), over, of(5)}, 3, 5)
}

// Rule 6: two bags do not depend on each other, nor on calls of one another.
func TestApart(t *testing.T) {
	x, y := filled(t, of(1), of(2), over), filled(t, of(2))
	z := read(t, string(x.Bytes()))
	x.Put(of(7))
	y.Put(over)
	z.Take(of(1))
	check(t, x, reference{of(1), of(2), over, of(7)}, 1, 2, 7)
	check(t, y, reference{of(2), over}, 1, 2, 7)
	check(t, z, reference{of(2), over}, 1, 2, 7)
}

// Rule 3: what Counts and Bytes return is new memory, and stays as it was; the
// bytes of Read are neither changed nor kept.
func TestMemory(t *testing.T) {
	r := append(values(4, 4, -2, 9, 300, 1, 1, 1, 7), over)
	b := filled(t, r...)
	l, again, s := b.Counts(), b.Counts(), b.Bytes()
	more := append(b.Bytes(), 9, 9)
	given := more[:len(s)]
	x, e := bag.Read(given)
	if e != api.OK || string(more) != r.bytes()+"\x09\x09" {
		t.Fatalf("the bytes changed, or error %d", e)
	}
	for _, o := range [][]api.Often{l} {
		o = o[:cap(o)]
		for i := range o {
			o[i] = api.Often{N: -1, Times: 99}
		}
	}
	for _, o := range [][]byte{s, given} {
		o = o[:cap(o)]
		for i := range o {
			o[i] = 255
		}
	}
	if !slices.Equal(again, r.counts()) {
		t.Errorf("the other list changed: %v", again)
	}
	check(t, b, r, r.near()...)
	check(t, x, r, r.near()...)
	b.Take(of(4))
	b.Put(of(5))
	if !slices.Equal(again, r.counts()) {
		t.Errorf("the list changed: %v", again)
	}
}
