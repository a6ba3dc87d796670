// Package prefix is layer 2: see shared/doc/02-prefix.md.
package prefix

import (
	"cmp"
	"slices"

	"routing/api"
	"routing/bits"
)

// Valid reports whether Len is from 0 to 32 and all bits after the first Len are 0.
func Valid(p api.Prefix) bool {
	return lengthInRange(p.Len) && keep(p.Addr, p.Len) == p.Addr
}

// Make returns the prefix of length n that contains a.
func Make(a api.Addr, n int) (api.Prefix, api.Errno) {
	if !lengthInRange(n) {
		return api.Prefix{}, api.ErrRange
	}
	return api.Prefix{Addr: keep(a, n), Len: n}, api.OK
}

// Contains reports whether p is valid and a is one of its addresses.
func Contains(p api.Prefix, a api.Addr) bool {
	return Valid(p) && keep(a, p.Len) == p.Addr
}

// Covers reports whether p and q are valid and every address of q is one of p.
func Covers(p, q api.Prefix) bool {
	return Valid(q) && p.Len <= q.Len && Contains(p, q.Addr)
}

// Overlap reports whether p and q are valid and share an address.
func Overlap(p, q api.Prefix) bool {
	return Covers(p, q) || Covers(q, p)
}

// Compare orders prefixes by address, then by length.
func Compare(p, q api.Prefix) int {
	if c := cmp.Compare(p.Addr, q.Addr); c != 0 {
		return c
	}
	return cmp.Compare(p.Len, q.Len)
}

// Last returns the greatest address of p, and 0 if p is not valid.
func Last(p api.Prefix) api.Addr {
	if !Valid(p) {
		return 0
	}
	return p.Addr | api.Addr(^bits.Mask(p.Len))
}

// Parent returns the prefix that is one bit shorter and covers p, if there is one.
func Parent(p api.Prefix) (api.Prefix, bool) {
	if !Valid(p) || p.Len == 0 {
		return api.Prefix{}, false
	}
	return api.Prefix{Addr: keep(p.Addr, p.Len-1), Len: p.Len - 1}, true
}

// Halves returns both prefixes that are one bit longer and that p covers, if there are any.
func Halves(p api.Prefix) (api.Prefix, api.Prefix, bool) {
	if !Valid(p) || p.Len == 32 {
		return api.Prefix{}, api.Prefix{}, false
	}
	middle := p.Addr | 1<<(31-p.Len)
	return api.Prefix{Addr: p.Addr, Len: p.Len + 1}, api.Prefix{Addr: middle, Len: p.Len + 1}, true
}

// Sort returns the prefixes in ascending order, each once.
func Sort(l []api.Prefix) []api.Prefix {
	sorted := slices.Clone(l)
	slices.SortFunc(sorted, Compare)
	return slices.Compact(sorted)
}

func lengthInRange(n int) bool {
	return n >= 0 && n <= 32
}

func keep(a api.Addr, n int) api.Addr {
	return api.Addr(bits.Keep(uint32(a), n))
}
