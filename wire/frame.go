package wire

import "waterwheel/api"

// part is the length in bytes of each of the two numbers before the bytes of
// a frame.
const part = 4

// Sum returns the sum of all elements of l, one after the other.
func Sum(l ...[]byte) uint32 {
	sums := table()
	sum := ^uint32(0)
	for _, b := range l {
		for _, c := range b {
			sum = sums[byte(sum)^c] ^ sum>>8
		}
	}
	return ^sum
}

// table returns what eight halvings do to each byte.
func table() (sums [256]uint32) {
	for i := range sums {
		sum := uint32(i)
		for range 8 {
			odd := sum%2 == 1
			sum /= 2
			if odd {
				sum ^= 2197175160
			}
		}
		sums[i] = sum
	}
	return sums
}

// Frame returns the frame of b.
func Frame(b []byte) ([]byte, api.Errno) {
	if len(b) > api.MaxFrame {
		return nil, api.ErrLong
	}
	size := lowest(uint64(len(b)), part)
	sum := lowest(uint64(Sum(size, b)), part)
	return join(size, sum, b), api.OK
}

// Unframe returns the bytes p in the frame at the beginning of b, and the
// length n of the whole frame.
func Unframe(b []byte) (p []byte, n int, e api.Errno) {
	if len(b) < part {
		return nil, 0, api.ErrMore
	}
	size := value(b[:part])
	if size > api.MaxFrame {
		return nil, 0, api.ErrBad
	}
	n = 2*part + int(size)
	if len(b) < n {
		return nil, 0, api.ErrMore
	}
	inside := b[2*part : n]
	if uint64(Sum(b[:part], inside)) != value(b[part:2*part]) {
		return nil, 0, api.ErrBad
	}
	return join(inside), n, api.OK
}
