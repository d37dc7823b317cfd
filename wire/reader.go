package wire

import (
	"math"

	"waterwheel/api"
)

// Reader reads bytes from left to right, and keeps its first error. Only New
// makes a valid one.
type Reader struct {
	left []byte
	err  api.Errno

	// attempt is shared by all reading calls: it applies a rule to what is
	// left, and returns what the rule found and the bytes it found it in. A
	// reader without it was not made by New.
	attempt func(by rule, most uint64) (x uint64, in []byte)
}

// A rule finds something at the beginning of left that is at most most. It
// returns that as a number, and how many bytes it has, or an error.
type rule func(left []byte, most uint64) (x uint64, n int, e api.Errno)

// New returns a reader of b.
func New(b []byte) *Reader {
	r := &Reader{left: join(b)}
	r.attempt = func(by rule, most uint64) (x uint64, in []byte) {
		if r.err != api.OK {
			return 0, nil
		}
		x, n, e := by(r.left, most)
		if e != api.OK {
			r.err = e
			return 0, nil
		}
		in, r.left = r.left[:n], r.left[n:]
		return x, in
	}
	return r
}

// Number reads a number.
func (r *Reader) Number() uint64 {
	x, _ := r.read(number, math.MaxUint64)
	return x
}

// Signed reads a signed number.
func (r *Reader) Signed() int64 {
	x, _ := r.read(number, math.MaxUint64)
	return unfold(x)
}

// Text reads a text.
func (r *Reader) Text() string {
	size, in := r.read(text, api.MaxText)
	return string(in[len(in)-int(size):])
}

// Truth reads a bool.
func (r *Reader) Truth() bool {
	x, _ := r.read(truth, 1)
	return x == 1
}

// Count reads a number that is at most most.
func (r *Reader) Count(most int) int {
	x, _ := r.read(number, uint64(max(most, 0)))
	return int(x)
}

// Left returns how many bytes have not been read.
func (r *Reader) Left() int {
	if !r.made() {
		return 0
	}
	return len(r.left)
}

// Err returns the first error.
func (r *Reader) Err() api.Errno {
	if !r.made() {
		return api.ErrNil
	}
	return r.err
}

// End returns the first error, or ErrBad if bytes are left.
func (r *Reader) End() api.Errno {
	if e := r.Err(); e != api.OK {
		return e
	}
	if r.Left() > 0 {
		return api.ErrBad
	}
	return api.OK
}

// made reports whether New returned r.
func (r *Reader) made() bool {
	return r != nil && r.attempt != nil
}

// read attempts to read by a rule.
func (r *Reader) read(by rule, most uint64) (x uint64, in []byte) {
	if !r.made() {
		return 0, nil
	}
	return r.attempt(by, most)
}

// number is the rule of numbers.
func number(left []byte, most uint64) (x uint64, n int, e api.Errno) {
	if len(left) == 0 {
		return 0, 0, api.ErrMore
	}
	if left[0] > 8 {
		return 0, 0, api.ErrBad
	}
	n = 1 + int(left[0])
	if len(left) < n {
		return 0, 0, api.ErrMore
	}
	if n > 1 && left[n-1] == 0 {
		return 0, 0, api.ErrBad
	}
	x = value(left[1:n])
	if x > most {
		return 0, 0, api.ErrLong
	}
	return x, n, api.OK
}

// text is the rule of texts: what it finds is the length of the text, whose
// bytes are the last ones.
func text(left []byte, most uint64) (size uint64, n int, e api.Errno) {
	size, n, e = number(left, most)
	if e != api.OK {
		return 0, 0, e
	}
	if uint64(len(left)-n) < size {
		return 0, 0, api.ErrMore
	}
	return size, n + int(size), api.OK
}

// truth is the rule of bools: one byte, which is at most most.
func truth(left []byte, most uint64) (x uint64, n int, e api.Errno) {
	if len(left) == 0 {
		return 0, 0, api.ErrMore
	}
	x = uint64(left[0])
	if x > most {
		return 0, 0, api.ErrBad
	}
	return x, 1, api.OK
}
