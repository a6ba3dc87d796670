package prefix_test

import (
	"math"
	"slices"
	"testing"

	"routing/api"
	"routing/prefix"
)

func pre(a api.Addr, n int) api.Prefix {
	return api.Prefix{Addr: a, Len: n}
}

// size returns the number of addresses of a prefix of length n.
func size(n int) uint64 {
	return 1 << (32 - n)
}

// holds is the definition of a valid prefix's addresses by arithmetic.
func holds(p api.Prefix, a api.Addr) bool {
	return uint64(a) >= uint64(p.Addr) && uint64(a) < uint64(p.Addr)+size(p.Len)
}

func addrs() []api.Addr {
	l := []api.Addr{0, 1, 0x0a010203, 0x0a0102ff, 0x0a010300, 0x7fffffff, 0x80000000, 0xaaaaaaaa, 0x55555555, 0xfffffffe, 0xffffffff}
	x := uint32(7)
	for range 20 {
		x = x*1664525 + 1013904223
		l = append(l, api.Addr(x))
	}
	return l
}

func validPrefixes() []api.Prefix {
	var l []api.Prefix
	for _, a := range addrs() {
		for n := range 33 {
			l = append(l, pre(api.Addr(uint64(a)/size(n)*size(n)), n))
		}
	}
	return l
}

func badLengths() []int {
	return []int{-1, -32, -33, 33, 34, 40, 64, 255, 256, 1 << 32, 1<<32 + 8, -(1 << 32), math.MinInt, math.MaxInt}
}

func invalidPrefixes() []api.Prefix {
	l := []api.Prefix{pre(0x0a000001, 8), pre(0xffffffff, 31), pre(1, 0), pre(0x80000000, 0)}
	for n := range 32 {
		l = append(l, pre(1, n), pre(1<<(31-n), n), pre(0xffffffff, n))
	}
	for _, n := range badLengths() {
		l = append(l, pre(0, n), pre(0x0a000000, n), pre(0xffffffff, n))
	}
	return l
}

// P2.1
func TestValid(t *testing.T) {
	for _, p := range validPrefixes() {
		if !prefix.Valid(p) {
			t.Errorf("Valid(%v) = false", p)
		}
	}
	for _, p := range invalidPrefixes() {
		if prefix.Valid(p) {
			t.Errorf("Valid(%v) = true", p)
		}
	}
}

// P2.2
func TestMake(t *testing.T) {
	if p, e := prefix.Make(167838211, 23); p != pre(0x0a010200, 23) || e != api.OK {
		t.Error("Make(167838211, 23)", p, e)
	}
	for _, a := range addrs() {
		for n := range 33 {
			want := pre(api.Addr(uint64(a)/size(n)*size(n)), n)
			if p, e := prefix.Make(a, n); p != want || e != api.OK {
				t.Errorf("Make(%x, %d) = %v, %v, want %v", a, n, p, e, want)
			}
		}
		for _, n := range badLengths() {
			if p, e := prefix.Make(a, n); p != (api.Prefix{}) || e != api.ErrRange {
				t.Errorf("Make(%x, %d) = %v, %v", a, n, p, e)
			}
		}
	}
}

// P2.3
func TestContains(t *testing.T) {
	for _, p := range validPrefixes() {
		last := p.Addr + api.Addr(size(p.Len)-1)
		for _, a := range append(addrs(), p.Addr, last, p.Addr-1, last+1, p.Addr+1, last-1) {
			if got := prefix.Contains(p, a); got != holds(p, a) {
				t.Fatalf("Contains(%v, %x) = %t", p, a, got)
			}
		}
	}
	for _, p := range invalidPrefixes() {
		for _, a := range append(addrs(), p.Addr) {
			if prefix.Contains(p, a) {
				t.Errorf("Contains(%v, %x) = true", p, a)
			}
		}
	}
}

// P2.4
func TestCoversAndOverlap(t *testing.T) {
	l := validPrefixes()
	for _, p := range l {
		for _, q := range l {
			last := q.Addr + api.Addr(size(q.Len)-1)
			covers := holds(p, q.Addr) && holds(p, last)
			if got := prefix.Covers(p, q); got != covers {
				t.Fatalf("Covers(%v, %v) = %t", p, q, got)
			}
			overlap := holds(p, q.Addr) || holds(q, p.Addr)
			if got := prefix.Overlap(p, q); got != overlap {
				t.Fatalf("Overlap(%v, %v) = %t", p, q, got)
			}
		}
	}
}

// P2.4
func TestCoversAndOverlapOfInvalid(t *testing.T) {
	valid := append(validPrefixes(), pre(0, 0))
	for _, bad := range invalidPrefixes() {
		if prefix.Covers(bad, bad) || prefix.Overlap(bad, bad) {
			t.Errorf("%v covers or overlaps itself", bad)
		}
		for _, p := range valid {
			if prefix.Covers(bad, p) || prefix.Covers(p, bad) || prefix.Overlap(bad, p) || prefix.Overlap(p, bad) {
				t.Fatalf("%v covers or overlaps %v or the reverse", bad, p)
			}
		}
	}
}

// P2.5
func TestCompare(t *testing.T) {
	ascending := []api.Prefix{
		pre(0, math.MinInt), pre(0, -1), pre(0, 0), pre(0, 8), pre(0, 33), pre(0, math.MaxInt), pre(1, math.MinInt), pre(1, 31),
		pre(0x0a010200, 23), pre(0x0a010200, 24), pre(0x0a010300, 0), pre(0x7fffffff, 32), pre(0x80000000, 1), pre(0x80000000, 2),
		pre(0xffffffff, math.MinInt), pre(0xffffffff, 32), pre(0xffffffff, math.MaxInt),
	}
	for i, p := range ascending {
		for j, q := range ascending {
			want := 0
			if i < j {
				want = -1
			} else if i > j {
				want = 1
			}
			if got := prefix.Compare(p, q); got != want {
				t.Errorf("Compare(%v, %v) = %d, want %d", p, q, got, want)
			}
		}
	}
}

// P2.6
func TestLast(t *testing.T) {
	if a := prefix.Last(pre(0x0a010200, 23)); a != 0x0a0103ff {
		t.Errorf("Last of 10.1.2.0/23 is %x", a)
	}
	for _, p := range validPrefixes() {
		if got, want := prefix.Last(p), p.Addr+api.Addr(size(p.Len)-1); got != want {
			t.Errorf("Last(%v) = %x, want %x", p, got, want)
		}
	}
	for _, p := range invalidPrefixes() {
		if got := prefix.Last(p); got != 0 {
			t.Errorf("Last(%v) = %x", p, got)
		}
	}
}

// P2.7
func TestParent(t *testing.T) {
	if p, ok := prefix.Parent(pre(0x0a010200, 23)); p != pre(0x0a010000, 22) || !ok {
		t.Error("Parent of 10.1.2.0/23", p, ok)
	}
	for _, p := range validPrefixes() {
		var want api.Prefix
		if p.Len > 0 {
			want = pre(api.Addr(uint64(p.Addr)/size(p.Len-1)*size(p.Len-1)), p.Len-1)
		}
		if got, ok := prefix.Parent(p); got != want || ok != (p.Len > 0) {
			t.Errorf("Parent(%v) = %v, %t, want %v", p, got, ok, want)
		}
	}
	for _, p := range invalidPrefixes() {
		if got, ok := prefix.Parent(p); got != (api.Prefix{}) || ok {
			t.Errorf("Parent(%v) = %v, %t", p, got, ok)
		}
	}
}

// P2.7
func TestHalves(t *testing.T) {
	if p, q, ok := prefix.Halves(pre(0x0a010200, 23)); p != pre(0x0a010200, 24) || q != pre(0x0a010300, 24) || !ok {
		t.Error("Halves of 10.1.2.0/23", p, q, ok)
	}
	for _, p := range validPrefixes() {
		var low, high api.Prefix
		if p.Len < 32 {
			low = pre(p.Addr, p.Len+1)
			high = pre(p.Addr+api.Addr(size(p.Len+1)), p.Len+1)
		}
		if a, b, ok := prefix.Halves(p); a != low || b != high || ok != (p.Len < 32) {
			t.Errorf("Halves(%v) = %v, %v, %t, want %v, %v", p, a, b, ok, low, high)
		}
	}
	for _, p := range invalidPrefixes() {
		if a, b, ok := prefix.Halves(p); a != (api.Prefix{}) || b != (api.Prefix{}) || ok {
			t.Errorf("Halves(%v) = %v, %v, %t", p, a, b, ok)
		}
	}
}

// P2.10
func TestSort(t *testing.T) {
	l := []api.Prefix{
		pre(0x0a010300, 24), pre(0xffffffff, 32), pre(0x0a010200, 24), pre(0, 33), pre(0x0a010200, 23), pre(0x0a010300, 24),
		pre(0, 0), pre(7, -5), pre(0x0a010200, 23), pre(7, -5), pre(0x80000000, 1), pre(0x0a010300, 24),
	}
	want := []api.Prefix{
		pre(0, 0), pre(0, 33), pre(7, -5), pre(0x0a010200, 23), pre(0x0a010200, 24), pre(0x0a010300, 24), pre(0x80000000, 1), pre(0xffffffff, 32),
	}
	if got := prefix.Sort(l); !slices.Equal(got, want) {
		t.Errorf("Sort(%v) = %v, want %v", l, got, want)
	}
	if got := prefix.Sort(want); !slices.Equal(got, want) {
		t.Errorf("Sort of a sorted list is %v", got)
	}
	if len(prefix.Sort(nil)) != 0 || len(prefix.Sort([]api.Prefix{})) != 0 {
		t.Error("Sort of an empty list is not empty")
	}
}

// P2.10
func TestSortOfManyPrefixes(t *testing.T) {
	given := append(validPrefixes(), invalidPrefixes()...)
	given = append(given, given...)
	seen := map[api.Prefix]bool{}
	for _, p := range given {
		seen[p] = true
	}
	got := prefix.Sort(given)
	if len(got) != len(seen) {
		t.Fatalf("Sort returns %d of %d prefixes", len(got), len(seen))
	}
	for i, p := range got {
		if !seen[p] {
			t.Errorf("Sort returns %v, which was not given", p)
		}
		if i > 0 && prefix.Compare(got[i-1], p) != -1 {
			t.Errorf("Sort returns %v before %v", got[i-1], p)
		}
	}
}

// P2.10, R5
func TestSortLeavesItsArgument(t *testing.T) {
	whole := []api.Prefix{pre(9, 32), pre(5, 32), pre(9, 32), pre(1, 32), pre(4, 32), pre(3, 32)}
	before := slices.Clone(whole)
	got := prefix.Sort(whole[:4])
	if !slices.Equal(whole, before) {
		t.Errorf("Sort changed its argument to %v", whole)
	}
	for i := range got {
		got[i] = pre(0, 0)
	}
	_ = append(got, pre(0, 0))
	if !slices.Equal(whole, before) {
		t.Errorf("the result of Sort shares memory with its argument: %v", whole)
	}
	one := []api.Prefix{pre(5, 32)}
	prefix.Sort(one)[0] = pre(0, 0)
	if one[0] != pre(5, 32) {
		t.Error("the result of Sort of one prefix shares memory with its argument")
	}
}

// P2.11
func TestHalvesPartition(t *testing.T) {
	for _, p := range validPrefixes() {
		low, high, ok := prefix.Halves(p)
		if !ok {
			continue
		}
		for _, a := range append(addrs(), p.Addr, prefix.Last(low), high.Addr, prefix.Last(p)) {
			inLow, inHigh := prefix.Contains(low, a), prefix.Contains(high, a)
			if inLow && inHigh || (inLow || inHigh) != prefix.Contains(p, a) {
				t.Fatalf("%x lies in %v: %t, in %v: %t, in %v: %t", a, low, inLow, high, inHigh, p, prefix.Contains(p, a))
			}
		}
	}
}

// P2.11
func TestOnePrefixOfEachLength(t *testing.T) {
	for _, a := range addrs() {
		for n := range 33 {
			p, e := prefix.Make(a, n)
			if e != api.OK || !prefix.Contains(p, a) {
				t.Errorf("Make(%x, %d) = %v, %v", a, n, p, e)
			}
		}
		for n := range 9 {
			count := 0
			for k := range uint64(1) << n {
				if prefix.Contains(pre(api.Addr(k*size(n)), n), a) {
					count++
				}
			}
			if count != 1 {
				t.Errorf("%d prefixes of length %d contain %x", count, n, a)
			}
		}
	}
}

// P2.12
func TestOverlappingPrefixesAreNested(t *testing.T) {
	l := append(validPrefixes(), invalidPrefixes()...)
	for _, p := range l {
		for _, q := range l {
			if prefix.Overlap(p, q) != (prefix.Covers(p, q) || prefix.Covers(q, p)) {
				t.Fatalf("%v and %v", p, q)
			}
		}
	}
	few := prefix.Sort(slices.Concat(validPrefixes()[2*33:5*33], invalidPrefixes()[:20]))
	for _, p := range few {
		for _, q := range few {
			for _, r := range few {
				if prefix.Covers(p, q) && prefix.Covers(q, r) && !prefix.Covers(p, r) {
					t.Fatalf("%v covers %v and this %v, but the first does not cover the last", p, q, r)
				}
			}
		}
	}
}
