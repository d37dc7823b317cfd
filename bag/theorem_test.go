package bag_test

import (
	"slices"
	"testing"

	"waterwheel/api"
)

// P13.3: put and then take of the same values, among others, leaves the bag
// unchanged.
func TestPutAndTake(t *testing.T) {
	d := dice(13)
	for round := range 200 {
		few := 1 + round%40
		stay, leave := reference{}, reference{}
		for range d.of(60) {
			stay.put(d.value(few))
		}
		for range d.of(60) {
			leave.put(d.value(few))
		}
		b := filled(t, shuffled(&d, slices.Concat(stay, leave))...)
		for _, v := range shuffled(&d, leave) {
			if e := b.Take(v); e != api.OK {
				t.Fatalf("take of %v: error %d", v, e)
			}
		}
		check(t, b, stay, stay.near()...)
		for _, v := range shuffled(&d, leave) {
			before := string(b.Bytes())
			b.Put(v)
			if e := b.Take(v); e != api.OK || string(b.Bytes()) != before {
				t.Fatalf("put and take of %v: error %d", v, e)
			}
		}
	}
}

// P13.3: a bag does not depend on the order in which few values are put.
func TestEveryOrder(t *testing.T) {
	want := append(values(-1, 0, 1, 1, 5, 9), over)
	var visit func(chosen []int)
	visit = func(chosen []int) {
		if len(chosen) == len(want) {
			l := reference{}
			for _, i := range chosen {
				l.put(want[i])
			}
			check(t, filled(t, l...), want, -1, 0, 1, 2)
			return
		}
		for i := range want {
			if !slices.Contains(chosen, i) {
				visit(append(slices.Clone(chosen), i))
			}
		}
	}
	visit(nil)
}

// P13.3: bags with the same numbers have the same bytes, whatever was put and
// taken before, also if one of them was read.
func TestSameBytes(t *testing.T) {
	d := dice(7)
	for range 100 {
		r := reference{}
		for range d.of(120) {
			r.put(d.value(50))
		}
		plain, mixed := filled(t, r...), read(t, written(uint64(d.of(3))))
		for mixed.Take(over) == api.OK {
		}
		for _, v := range shuffled(&d, r) {
			other := d.value(70)
			mixed.Put(other)
			mixed.Put(v)
			mixed.Take(other)
		}
		again := read(t, string(mixed.Bytes()))
		if s := r.bytes(); string(plain.Bytes()) != s || string(mixed.Bytes()) != s || string(again.Bytes()) != s {
			t.Fatalf("%q, %q and %q, not %q", plain.Bytes(), mixed.Bytes(), again.Bytes(), s)
		}
	}
}
