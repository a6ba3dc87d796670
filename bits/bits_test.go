package bits_test

import (
	"math"
	"strconv"
	"strings"
	"testing"

	"routing/bits"
)

// text32 and text64 return the bits of a word as text, the most significant first.
func text32(x uint32) string {
	s := strconv.FormatUint(uint64(x), 2)
	return strings.Repeat("0", 32-len(s)) + s
}

func text64(x uint64) string {
	s := strconv.FormatUint(x, 2)
	return strings.Repeat("0", 64-len(s)) + s
}

func words32() []uint32 {
	l := []uint32{0, math.MaxUint32, 0x0a010203, 0xaaaaaaaa, 0x55555555, 0xffff0000, 0x0000ffff, 0x7ffffffe}
	for i := range 32 {
		l = append(l, 1<<i, 1<<i-1, ^uint32(1<<i), ^uint32(0)<<i)
	}
	x := uint32(1)
	for range 100 {
		x = x*1664525 + 1013904223
		l = append(l, x, x>>(x>>27))
	}
	return l
}

func words64() []uint64 {
	l := []uint64{0, math.MaxUint64, 0xaaaaaaaaaaaaaaaa, 0x5555555555555555, 0xffffffff00000000, 0xffffffff}
	for i := range 64 {
		l = append(l, 1<<i, 1<<i-1, ^uint64(1<<i), ^uint64(0)<<i)
	}
	x := uint64(1)
	for range 100 {
		x = x*6364136223846793005 + 1442695040888963407
		l = append(l, x, x>>(x>>58))
	}
	return l
}

// counts returns numbers from below 0 to beyond limit, with the extreme ones.
func counts(limit int) []int {
	l := []int{math.MinInt, math.MinInt32, math.MaxInt32, math.MaxInt, 1 << 32, -(1 << 32)}
	for n := -40; n <= limit+70; n++ {
		l = append(l, n)
	}
	return l
}

func within(n, limit int) int {
	if n < 0 {
		return 0
	}
	if n > limit {
		return limit
	}
	return n
}

// P1.1
func TestMask(t *testing.T) {
	if bits.Mask(8) != 4278190080 {
		t.Error("Mask(8)", bits.Mask(8))
	}
	for _, n := range counts(32) {
		k := within(n, 32)
		want := strings.Repeat("1", k) + strings.Repeat("0", 32-k)
		if got := text32(bits.Mask(n)); got != want {
			t.Errorf("Mask(%d) = %s, want %s", n, got, want)
		}
	}
}

// P1.2
func TestKeep(t *testing.T) {
	if bits.Keep(4294967295, 1) != 2147483648 {
		t.Error("Keep(4294967295, 1)", bits.Keep(4294967295, 1))
	}
	for _, x := range words32() {
		for _, n := range counts(32) {
			k := within(n, 32)
			want := text32(x)[:k] + strings.Repeat("0", 32-k)
			if got := text32(bits.Keep(x, n)); got != want {
				t.Fatalf("Keep(%s, %d) = %s, want %s", text32(x), n, got, want)
			}
		}
	}
}

// P1.3
func TestAt(t *testing.T) {
	if bits.At(1, 31) != 1 || bits.At(1, 0) != 0 || bits.At(1<<31, 0) != 1 {
		t.Error("At of 1 or 1<<31")
	}
	for _, x := range words32() {
		s := text32(x)
		for _, i := range counts(31) {
			want := 0
			if i >= 0 && i <= 31 {
				want = int(s[i] - '0')
			}
			if got := bits.At(x, i); got != want {
				t.Fatalf("At(%s, %d) = %d, want %d", s, i, got, want)
			}
		}
	}
}

// P1.4
func TestCommon(t *testing.T) {
	for _, c := range []struct {
		a, b uint32
		want int
	}{
		{0, 1, 31}, {0, 0, 32}, {math.MaxUint32, math.MaxUint32, 32}, {0, 1 << 31, 0}, {0, math.MaxUint32, 0},
		{0x0a010200, 0x0a010300, 23}, {0x0a000000, 0x0a800000, 8}, {5, 4, 31}, {7, 4, 30},
	} {
		if got := bits.Common(c.a, c.b); got != c.want {
			t.Errorf("Common(%x, %x) = %d, want %d", c.a, c.b, got, c.want)
		}
		if got := bits.Common(c.b, c.a); got != c.want {
			t.Errorf("Common(%x, %x) = %d, want %d", c.b, c.a, got, c.want)
		}
	}
}

// P1.5
func TestOnesLeadTrail(t *testing.T) {
	if bits.Ones(255) != 8 || bits.Lead(1) != 31 || bits.Trail(8) != 3 {
		t.Error("the examples", bits.Ones(255), bits.Lead(1), bits.Trail(8))
	}
	if bits.Ones(0) != 0 || bits.Ones(math.MaxUint64) != 64 || bits.Ones(1<<63) != 1 || bits.Ones(1<<32|1) != 2 {
		t.Error("Ones of the extreme words")
	}
	if bits.Lead(0) != 32 || bits.Trail(0) != 32 || bits.Lead(1<<31) != 0 || bits.Trail(1) != 0 || bits.Trail(1<<31) != 31 {
		t.Error("Lead or Trail of the extreme words")
	}
	for _, x := range words64() {
		if got, want := bits.Ones(x), strings.Count(text64(x), "1"); got != want {
			t.Errorf("Ones(%s) = %d, want %d", text64(x), got, want)
		}
	}
	for _, x := range words32() {
		s := text32(x)
		if got, want := bits.Lead(x), 32-len(strings.TrimLeft(s, "0")); got != want {
			t.Errorf("Lead(%s) = %d, want %d", s, got, want)
		}
		if got, want := bits.Trail(x), 32-len(strings.TrimRight(s, "0")); got != want {
			t.Errorf("Trail(%s) = %d, want %d", s, got, want)
		}
	}
}

// P1.6
func TestRank(t *testing.T) {
	if bits.Rank(255, 4) != 4 {
		t.Error("Rank(255, 4)", bits.Rank(255, 4))
	}
	for _, x := range words64() {
		s := text64(x)
		for _, i := range counts(64) {
			want := strings.Count(s[64-within(i, 64):], "1")
			if got := bits.Rank(x, i); got != want {
				t.Fatalf("Rank(%s, %d) = %d, want %d", s, i, got, want)
			}
		}
	}
}

// P1.7
func TestWordIsSumOfItsBits(t *testing.T) {
	for _, x := range words32() {
		sum := uint64(0)
		for i := range 32 {
			sum += uint64(bits.At(x, i)) * (1 << (31 - i))
		}
		if sum != uint64(x) {
			t.Errorf("the bits of %d add up to %d", x, sum)
		}
	}
}

// P1.8
func TestCommonIsGreatestEqualLength(t *testing.T) {
	l := words32()
	for _, a := range l {
		for _, b := range l {
			common := bits.Common(a, b)
			if common < 0 || common > 32 {
				t.Fatalf("Common(%x, %x) = %d", a, b, common)
			}
			for n := range 33 {
				equal := bits.Keep(a, n) == bits.Keep(b, n)
				if equal != (n <= common) {
					t.Fatalf("Common(%x, %x) = %d, but equality of the first %d bits is %t", a, b, common, n, equal)
				}
			}
		}
	}
}

// P1.9
func TestRankGrowsByEachBit(t *testing.T) {
	for _, x := range words64() {
		if bits.Rank(x, 0) != 0 || bits.Rank(x, 64) != bits.Ones(x) {
			t.Errorf("Rank of %x begins with %d and ends with %d", x, bits.Rank(x, 0), bits.Rank(x, 64))
		}
		for i := range 64 {
			if got := bits.Rank(x, i+1) - bits.Rank(x, i); got != int(x>>i&1) {
				t.Errorf("Rank of %x grows by %d at bit %d", x, got, i)
			}
		}
	}
}
