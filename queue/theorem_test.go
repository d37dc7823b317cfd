package queue_test

import (
	"testing"

	"waterwheel/api"
	"waterwheel/queue"
)

// P19.3: all lists of five calls, with each small room.
func TestEveryCall(t *testing.T) {
	calls := []func(t *testing.T, x *pair, n int64){
		func(t *testing.T, x *pair, n int64) { x.put(t, pass(n)) },
		func(t *testing.T, x *pair, n int64) { x.put(t, of(n+1, n), at(n+1, put(n))) },
		func(t *testing.T, x *pair, n int64) { x.put(t, pass(n), pass(n+10), of(n+1, n, "a", "x")) },
		func(t *testing.T, x *pair, n int64) { x.put(t, pass(n), pass(-1)) },
		func(t *testing.T, x *pair, n int64) { x.take(t) },
		func(t *testing.T, x *pair, n int64) { x.again(t) },
	}
	for room := 1; room <= 4; room++ {
		for list := range 6 * 6 * 6 * 6 * 6 {
			q, _ := queue.New(room)
			x := &pair{q, reference{room: room}}
			for n := range int64(5) {
				calls[list%6](t, x, n)
				list /= 6
			}
			x.check(t)
		}
	}
}

// P19.3: calls that look like chance.
func TestChance(t *testing.T) {
	d := dice(2)
	for range 300 {
		x := made(t, pick(&d, 1, 2, 3, 1+d.of(10), 1+d.of(40)))
		for range 100 {
			switch d.of(8) {
			case 0, 1, 2:
				x.put(t, d.items(4)...)
			case 3:
				x.put(t, d.items(x.r.room)...)
			case 4, 5:
				x.take(t)
			case 6:
				for range d.of(x.r.room + 1) {
					x.take(t)
				}
			case 7:
				if d.of(3) == 0 {
					x.again(t)
				}
			}
			x.check(t)
		}
	}
}

// P19.3: what is taken is what was put, in order, whatever the numbers are by
// which a queue grows and shrinks.
func TestOrder(t *testing.T) {
	for _, room := range []int{1, 2, 3, 5, 8, 17, 64, 100, 1000, 4096} {
		for _, step := range []int{1, 2, 3, 7, 50, 333} {
			q, _ := queue.New(room)
			in, out := int64(0), int64(0)
			for n := range 60 {
				var l []api.Item
				for range min(step, q.Room()) {
					l = append(l, pass(in))
					in++
				}
				if e := q.Put(l...); e != api.OK || q.Len() > room || int64(q.Len()) != in-out {
					t.Fatalf("%d items of %d, error %d", q.Len(), room, e)
				}
				// At first fewer are taken than put, then all of them.
				for range step * min(n, 30) / 30 {
					i, e := q.Take()
					if out == in && e == api.ErrNone {
						break
					}
					if e != api.OK || !queue.Same(i, pass(out)) {
						t.Fatalf("%s, not pass %d, error %d", dump(i), out, e)
					}
					out++
				}
			}
		}
	}
}

// P19.3, T6: two queues do not depend on each other, and the same calls have the
// same results.
func TestApart(t *testing.T) {
	d := dice(3)
	for range 50 {
		x, y := made(t, 5), made(t, 5)
		for range 40 {
			l := d.items(3)
			first, second := x.put(t, l...), y.put(t, l...)
			if d.of(2) == 0 {
				x.take(t)
				y.take(t)
			}
			if first != second || string(x.q.Bytes()) != string(y.q.Bytes()) {
				t.Fatal("the same calls have other results")
			}
		}
		x.take(t)
		x.check(t)
		y.check(t)
	}
}
