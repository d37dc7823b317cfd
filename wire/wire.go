// Package wire is layer 1: it writes numbers, texts and frames as bytes, and
// reads them again. See shared/doc/01-wire.md.
package wire

import (
	"math/bits"

	"waterwheel/api"
)

// Number returns b followed by the number x.
func Number(b []byte, x uint64) []byte {
	size := (bits.Len64(x) + 7) / 8
	return join(b, []byte{byte(size)}, lowest(x, size))
}

// Signed returns b followed by the signed number x.
func Signed(b []byte, x int64) []byte {
	return Number(b, fold(x))
}

// Text returns b followed by the text s.
func Text(b []byte, s string) ([]byte, api.Errno) {
	if len(s) > api.MaxText {
		return nil, api.ErrLong
	}
	return join(b, Number(nil, uint64(len(s))), []byte(s)), api.OK
}

// Truth returns b followed by the bool is.
func Truth(b []byte, is bool) []byte {
	bit := byte(0)
	if is {
		bit = 1
	}
	return join(b, []byte{bit})
}

// join returns the pieces one after the other. It never appends to one of
// them, because what a call returns shares no memory with what it was given.
func join(pieces ...[]byte) []byte {
	size := 0
	for _, piece := range pieces {
		size += len(piece)
	}
	all := make([]byte, 0, size)
	for _, piece := range pieces {
		all = append(all, piece...)
	}
	return all
}

// lowest returns the size lowest bytes of x, the lowest first.
func lowest(x uint64, size int) []byte {
	b := make([]byte, size)
	for i := range b {
		b[i] = byte(x)
		x >>= 8
	}
	return b
}

// value is the opposite of lowest, for at most 8 bytes.
func value(b []byte) uint64 {
	x := uint64(0)
	for i, c := range b {
		x |= uint64(c) << (8 * i)
	}
	return x
}

// fold returns 2x, or -2x - 1 if x is below 0. It adds before it negates,
// because the least x has no opposite.
func fold(x int64) uint64 {
	if x >= 0 {
		return 2 * uint64(x)
	}
	return 2*uint64(-(x+1)) + 1
}

// unfold is the opposite of fold.
func unfold(x uint64) int64 {
	half := int64(x / 2)
	if x%2 == 1 {
		return -half - 1
	}
	return half
}
