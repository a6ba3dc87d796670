package stride

import (
	"iter"

	"routing/api"
)

// The block of a list of digits is represented by the prefix with its addresses; that of six digits has the length 32.

const (
	addressBits = 32
	digitBits   = 6
	lastDepth   = 5 // depth of the nodes below which there are addresses
)

// digit returns digit i of an address; the bits behind those of the address are 0.
func digit(a api.Addr, i int) int {
	return int(a << (digitBits * i) >> (addressBits - digitBits))
}

// digits visits the digits whose blocks below the block b are not empty, ascending, with these blocks.
func digits(b api.Prefix) iter.Seq2[int, api.Prefix] {
	return func(yield func(int, api.Prefix) bool) {
		// Behind the last bit of an address all bits are 0, so only some digits stand for addresses there.
		end := b.Len + digitBits
		step := 1 << max(end-addressBits, 0)
		for x := 0; x < 1<<digitBits; x += step {
			a := b.Addr | api.Addr(x)<<(addressBits-digitBits)>>b.Len
			if !yield(x, api.Prefix{Addr: a, Len: min(end, addressBits)}) {
				return
			}
		}
	}
}
