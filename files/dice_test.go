package files_test

import (
	"math"
)

// A dice gives numbers that look like chance.
type dice uint64

// of returns a number from 0 to n - 1.
func (d *dice) of(n int) int {
	*d = *d*6364136223846793005 + 1442695040888963407
	return int(*d >> 33 % dice(n))
}

// pick returns one of l.
func pick[T any](d *dice, l ...T) T {
	return l[d.of(len(l))]
}

// number returns a number that is small, or near a limit.
func (d *dice) number() int {
	n := d.of(6)
	return pick(d, n, n, n, n-3, math.MaxInt-n, math.MinInt+n)
}

// numbers returns up to four numbers.
func (d *dice) numbers() (l []int) {
	for range d.of(5) {
		l = append(l, d.number())
	}
	return l
}

// name returns a name. Seldom it is not valid.
func (d *dice) name() string {
	if d.of(40) == 0 {
		return pick(d, "", "A", "a_", "a\x00", "abcdefghijklmnopqrstuvwxy")
	}
	return pick(d, "a", "b", "c", "a", "b", "-.", "a1", "abcdefghijklmnopqrstuvwx")
}

// text returns up to four bytes.
func (d *dice) text() string {
	return pick(d, "", "x", "yz", "\x00\xff", "abc", "wxyz")
}

// call returns a call. Those that end what is not safe are less frequent.
func (d *dice) call() call {
	switch n := d.of(40); {
	case n < 8:
		return create(d.name())
	case n < 18:
		return add(d.name(), d.text())
	case n < 22:
		return sync(d.name())
	case n < 24:
		return syncNames()
	case n < 29:
		return rename(d.name(), d.name())
	case n < 33:
		return remove(d.name())
	case n < 36:
		return read(d.name())
	case n < 37:
		return fuse(d.number())
	}
	return crash(d.number(), d.numbers()...)
}
