package log_test

import (
	"slices"
	"strings"
)

// A dice gives numbers that look like chance.
type dice uint64

// of returns a number from 0 to n - 1.
func (d *dice) of(n int) int {
	*d = *d*6364136223846793005 + 1442695040888963407
	return int(*d >> 33 % dice(n))
}

// pick returns one of l.
func pick[T any](d *dice, l ...T) T {
	return l[d.of(len(l))]
}

// record returns a record.
func (d *dice) record() string {
	return pick(d, "", "a", "bc", "\x00\xff", strings.Repeat("z", d.of(40)), framed("in it"))
}

// records returns up to three records, seldom more.
func (d *dice) records() (l []string) {
	for range pick(d, d.of(4), 1, d.of(4), d.of(20)) {
		l = append(l, d.record())
	}
	return l
}

// parts returns parts of a crash.
func (d *dice) parts() (l []int) {
	for range d.of(4) {
		l = append(l, d.of(80)-5)
	}
	return l
}

// file returns the name of a file of the log x, or nearly of it.
func (d *dice) file() string {
	return pick(d, "x-1", "x-2", "x-3", "x-10", "x-20", "x-999999", "tmp-x", "x-01", "x-0", "x", "xx-3", "y-1", "tmp-y", "x-1000000")
}

// bytes returns bytes that somebody else writes.
func (d *dice) bytes() string {
	b := framed(d.records()...)
	if d.of(2) == 0 {
		return b
	}
	return b[:d.of(len(b)+1)]
}

// call returns a call. Those that end what is not safe are less frequent.
func (d *dice) call() call {
	switch n := d.of(40); {
	case n < 12:
		return add(d.records()...)
	case n < 18:
		return sync()
	case n < 23:
		return next(d.records()...)
	case n < 28:
		return open()
	case n < 32:
		return fuse(d.of(14) - 1)
	case n < 36:
		return crash(d.of(9)-1, d.parts()...)
	}
	return d.other()
}

// other returns what somebody else does to the disk.
func (d *dice) other() call {
	file := d.file()
	return pick(d, create(file), addBytes(file, d.bytes()), remove(file), addBytes(file, d.bytes()))
}

// calls returns n calls that end with a crash and an Open.
func (d *dice) calls(n int) (l []call) {
	l = []call{open()}
	for range n {
		c := d.call()
		l = append(l, c)
		if c.kind == doCrash {
			l = append(l, open())
		}
	}
	return slices.Concat(l, []call{crash(d.of(9), d.parts()...), open()})
}
