package queue_test

import (
	"math"
	"slices"
	"testing"

	"waterwheel/api"
	"waterwheel/queue"
)

// The examples of the chapter.
func TestExamples(t *testing.T) {
	q, e := queue.New(2)
	if e != api.OK || q.Put(pass(1), pass(2)) != api.OK || q.Put(pass(3)) != api.ErrBusy {
		t.Fatalf("error %d", e)
	}
	if i, e := q.Take(); e != api.OK || !queue.Same(i, pass(1)) || q.Room() != 1 {
		t.Errorf("%s, error %d, room for %d", dump(i), e, q.Room())
	}
	if e := q.Put(pass(3), pass(4)); e != api.ErrBusy || q.Len() != 1 {
		t.Errorf("error %d, %d items", e, q.Len())
	}
}

// P19.1: the rooms that are valid, and those that are not.
func TestNew(t *testing.T) {
	for _, room := range []int{math.MinInt, -1 << 32, -4096, -1, 0, 4097, 1<<32 + 1, math.MaxInt} {
		if q, e := queue.New(room); q != nil || e != api.ErrArg {
			t.Errorf("room %d: a queue %t, error %d", room, q != nil, e)
		}
	}
	for room := 1; room <= 4096; room++ {
		x := made(t, room)
		x.take(t)
	}
}

// P19.1: items of each kind are put, and taken again.
func TestPutAndTake(t *testing.T) {
	l := good(all())
	x := made(t, len(l))
	for _, i := range l {
		x.put(t, i)
	}
	x.check(t)
	x.put(t, pass(1))
	for range l {
		x.take(t)
	}
	x.check(t)
	x.take(t)
	if e := x.put(t, l...); e != api.OK {
		t.Errorf("error %d", e)
	}
	x.check(t)
	for x.q.Len() > 0 {
		x.take(t)
		x.put(t)
	}
	x.take(t)
	x.check(t)
}

// P19.1: if there is no room for all items, none is put; if there is, all are.
func TestPutBusy(t *testing.T) {
	l := make([]api.Item, 12)
	for n := range l {
		l[n] = pass(int64(n))
	}
	for room := 1; room <= 9; room++ {
		for first := range room + 1 {
			for before := range first + 1 {
				for n := range len(l) {
					x := made(t, room)
					x.put(t, l[:first]...)
					for range before {
						x.take(t)
					}
					want := api.OK
					if first-before+n > room {
						want = api.ErrBusy
					}
					if e := x.put(t, l[:n]...); e != want {
						t.Fatalf("put of %d with %d of %d: error %d", n, first-before, room, e)
					}
					x.check(t)
				}
			}
		}
	}
}

// P19.1: an item that is not valid comes before too many of them, wherever it is,
// and has no effect.
func TestPutErrors(t *testing.T) {
	d := dice(1)
	var wrong []api.Item
	for _, i := range append(all(), api.Item{}, api.Item{Kind: 4}, api.Item{Kind: -1}, api.Item{Kind: 2, Sample: of(5, 1).Sample}) {
		if !isItem(i) {
			wrong = append(wrong, i)
		}
	}
	for _, room := range []int{1, 3} {
		for n := range room + 1 {
			x := made(t, room)
			for range n {
				x.put(t, d.item())
			}
			for _, i := range wrong {
				for _, l := range [][]api.Item{{i}, {pass(1), i}, {i, pass(1)}, {pass(1), at(1), i, of(1, 1)}, {i, i, i, i, i}} {
					if e := x.put(t, l...); e != api.ErrArg {
						t.Fatalf("put of %s: error %d", short(dump(i)), e)
					}
				}
			}
			x.check(t)
		}
	}
}

// P19.1, P19.3: the greatest room, and all of it used, again and again.
func TestGreatest(t *testing.T) {
	x := made(t, api.MaxRoom)
	l := make([]api.Item, api.MaxRoom+1)
	for n := range l {
		l[n] = pass(int64(n))
	}
	if e := x.put(t, l...); e != api.ErrBusy {
		t.Errorf("error %d", e)
	}
	for _, n := range []int{4096, 1, 4095, 4096, 2048, 3000, 1, 4096} {
		free := x.q.Room()
		if e := x.put(t, l[:free]...); e != api.OK {
			t.Fatalf("error %d", e)
		}
		if e := x.put(t, of(1, 1)); e != api.ErrBusy {
			t.Fatalf("error %d", e)
		}
		x.check(t)
		for range n {
			x.take(t)
		}
		x.check(t)
		x.again(t)
	}
	x.put(t, l[1:]...)
	x.again(t)
	for _, n := range []int{math.MinInt, 4097} {
		if q, e := queue.New(n); q != nil || e != api.ErrArg {
			t.Errorf("error %d", e)
		}
	}
}

// P19.1: Put of the items that a queue itself has.
func TestPutOwn(t *testing.T) {
	x := made(t, 8)
	x.put(t, of(1, 5, "a", "x"), at(5, put(1, "b", "y"), gone()))
	x.put(t, x.q.Items()...)
	x.put(t, x.q.Items()...)
	first, _ := x.q.First()
	if e := x.put(t, first); e != api.ErrBusy {
		t.Errorf("error %d", e)
	}
	x.check(t)
	i, _ := x.take(t)
	x.put(t, i)
	x.check(t)
}

// P19.1, P19.2: First and Items of an empty queue, also after it had something.
func TestEmpty(t *testing.T) {
	for room := 1; room <= 5; room++ {
		x := made(t, room)
		for range 3 * room {
			x.put(t, of(1, 5, "a", "x"))
			x.take(t)
			if i, e := x.take(t); e != api.ErrNone || dump(i) != dump(api.Item{}) {
				t.Errorf("%s, error %d", dump(i), e)
			}
			if i, is := x.q.First(); is || dump(i) != dump(api.Item{}) || len(x.q.Items()) != 0 {
				t.Errorf("%s, %t", dump(i), is)
			}
			x.check(t)
		}
	}
}

// Rule 7: a queue that nobody made.
func TestInvalid(t *testing.T) {
	x := made(t, 3)
	x.put(t, pass(1), at(5, put(1)))
	l := []*queue.Queue{nil, {}, new(queue.Queue)}
	copied := *x.q
	l = append(l, &copied)
	for n, q := range l {
		for range 2 {
			for _, items := range [][]api.Item{nil, {pass(1)}, {pass(-1)}, {{}}, slices.Repeat([]api.Item{pass(1)}, 9)} {
				if e := q.Put(items...); e != api.ErrNil {
					t.Errorf("queue %d: error %d of Put", n, e)
				}
			}
			if i, e := q.Take(); e != api.ErrNil || dump(i) != dump(api.Item{}) {
				t.Errorf("queue %d: %s, error %d of Take", n, dump(i), e)
			}
			if i, is := q.First(); is || dump(i) != dump(api.Item{}) {
				t.Errorf("queue %d: %s, %t of First", n, dump(i), is)
			}
			if q.Len() != 0 || q.Room() != 0 || len(q.Items()) != 0 || len(q.Bytes()) != 0 {
				t.Errorf("queue %d: %d items, room for %d, bytes %q", n, q.Len(), q.Room(), q.Bytes())
			}
		}
	}
	x.check(t)
}
