package bag

import (
	"testing"

	"waterwheel/api"
)

// shape checks a tree: its order, what its nodes have about their sides, and
// that these differ in height by at most one. It returns its height and the sum
// of its counts.
func shape(t *testing.T, x tree, before, after *int64) (height, sum int) {
	t.Helper()
	k := x.top
	if k == nil {
		return 0, 0
	}
	if before != nil && k.n <= *before || after != nil && k.n >= *after || k.times < 1 {
		t.Fatalf("the number %d with the count %d is at a wrong place", k.n, k.times)
	}
	low, lowSum := shape(t, k.sides[below], before, &k.n)
	high, highSum := shape(t, k.sides[above], &k.n, after)
	if low-high > 1 || high-low > 1 {
		t.Fatalf("%d has sides of the heights %d and %d", k.n, low, high)
	}
	height, sum = 1+max(low, high), lowSum+k.times+highSum
	if k.tall != height || k.all != sum {
		t.Fatalf("%d has the height %d and the sum %d, not %d and %d", k.n, k.tall, k.all, height, sum)
	}
	return height, sum
}

// The way of the tree: it is kept balanced, also while numbers are removed.
func TestBalanced(t *testing.T) {
	const n = 500
	orders := map[string]func(i int64) int64{
		"up":    func(i int64) int64 { return i },
		"down":  func(i int64) int64 { return -i },
		"mixed": func(i int64) int64 { return i * 389 % n },
		"out":   func(i int64) int64 { return (i%2*2 - 1) * i },
		"in":    func(i int64) int64 { return (i%2*2 - 1) * (n - i) },
		"twice": func(i int64) int64 { return i / 2 * 617 % n },
	}
	for name, put := range orders {
		for _, take := range []int64{1, 7, 389, n - 1} {
			b := New()
			for i := range int64(n) {
				b.Put(api.Value{N: put(i)})
				shapeOf(t, b, int(i+1))
			}
			for i := range int64(n) {
				if e := b.Take(api.Value{N: put(i * take % n)}); e != api.OK {
					t.Fatalf("%s: take: error %d", name, e)
				}
				shapeOf(t, b, int(n-i-1))
			}
		}
	}
}

// shapeOf checks the tree of a bag that has so many values.
func shapeOf(t *testing.T, b *Bag, want int) {
	t.Helper()
	if _, sum := shape(t, b.numbers, nil, nil); sum != want {
		t.Fatalf("%d values, not %d", sum, want)
	}
}

// The way of the tree: it is balanced after it was read.
func TestReadBalanced(t *testing.T) {
	for n := range int64(300) {
		b := New()
		for i := range n {
			b.Put(api.Value{N: i})
		}
		x, e := Read(b.Bytes())
		if e != api.OK {
			t.Fatalf("read: error %d", e)
		}
		shapeOf(t, x, int(n))
	}
}

// The way of the counts: they are yielded one by one, until a range leaves them.
func TestCountsLeft(t *testing.T) {
	b := New()
	for i := range int64(100) {
		b.Put(api.Value{N: i * 37 % 100})
	}
	for stop := range int64(100) {
		next := int64(0)
		for o := range b.numbers.counts() {
			if o != (api.Often{N: next, Times: 1}) {
				t.Fatalf("%v, not %d", o, next)
			}
			if next == stop {
				break
			}
			next++
		}
		if next != stop {
			t.Fatalf("left at %d, not at %d", next, stop)
		}
	}
}
