package plan

// wordBits is how many bits a word of a bit set has.
const wordBits = 64

// Bits are a set of numbers from 0 on.
type bits []uint64

// set adds a number.
func (b bits) set(n int) {
	b[n/wordBits] |= 1 << (n % wordBits)
}

// has reports whether a number is in the set.
func (b bits) has(n int) bool {
	return b[n/wordBits]&(1<<(n%wordBits)) != 0
}
