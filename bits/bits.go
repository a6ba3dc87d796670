// Package bits is layer 1: see shared/doc/01-bits.md.
package bits

// Mask returns the word whose first n bits are 1; n below 0 counts as 0, n above 32 as 32.
func Mask(n int) uint32 {
	return ^uint32(0) << (32 - clamp(n, 32))
}

// Keep returns x with all bits after the first n set to 0, with n as for Mask.
func Keep(x uint32, n int) uint32 {
	return x & Mask(n)
}

// At returns bit i of x, where bit 0 is the most significant; it returns 0 if i is not from 0 to 31.
func At(x uint32, i int) int {
	if i < 0 || i > 31 {
		return 0
	}
	return int(x >> (31 - i) & 1)
}

// Common returns the number of leading bits that a and b share.
func Common(a, b uint32) int {
	return Lead(a ^ b)
}

// Ones returns the number of bits of x that are 1.
func Ones(x uint64) int {
	return Rank(x, 64)
}

// Lead returns the number of bits before the first 1 of x, and 32 for 0.
func Lead(x uint32) int {
	for i := range 32 {
		if At(x, i) == 1 {
			return i
		}
	}
	return 32
}

// Trail returns the number of bits after the last 1 of x, and 32 for 0.
func Trail(x uint32) int {
	for i := range 32 {
		if At(x, 31-i) == 1 {
			return i
		}
	}
	return 32
}

// Rank returns the number of bits of x below bit i that are 1, where bit 0 is the least significant;
// i below 0 counts as 0, i above 64 as 64.
func Rank(x uint64, i int) int {
	n := 0
	for j := range clamp(i, 64) {
		n += int(x >> j & 1)
	}
	return n
}

// clamp returns the number from 0 to limit that is nearest to n.
func clamp(n, limit int) int {
	return min(max(n, 0), limit)
}
