package checksum_test

import (
	"bytes"
	"hash/fnv"
	"math"
	"math/big"
	"slices"
	"testing"

	"routing/checksum"
)

// lists returns lists of many lengths: of zeros, of greatest bytes, and of mixed ones.
func lists() [][]byte {
	l := [][]byte{nil, {}, {0}, {255}, {254}, {1}, {255, 255}, {255, 0}, {0, 255}, {255, 254}, {0, 1}, {1, 0, 0}, {1, 253, 1}, {0, 1, 242, 3, 244, 245, 246, 247}}
	x := uint64(7)
	for _, n := range []int{2, 3, 4, 5, 6, 7, 8, 20, 21, 254, 255, 256, 257, 258, 509, 510, 511, 512, 1000, 1001} {
		mixed := make([]byte, n)
		for i := range mixed {
			x = x*6364136223846793005 + 1442695040888963407
			mixed[i] = byte(x >> 56)
		}
		l = append(l, make([]byte, n), bytes.Repeat([]byte{255}, n), bytes.Repeat([]byte{1}, n), mixed)
	}
	return l
}

// folded is the Internet checksum by the folding of carries.
func folded(b []byte) int {
	sum := uint64(0)
	for i, c := range b {
		if i%2 == 0 {
			sum += uint64(c) << 8
		} else {
			sum += uint64(c)
		}
	}
	for sum > 0xffff {
		sum = sum>>16 + sum&0xffff
	}
	return int(^uint16(sum))
}

// valid is the definition of P4.3.
func valid(b []byte) bool {
	first, second := new(big.Int), new(big.Int)
	for i, c := range b {
		first.Add(first, big.NewInt(int64(c)))
		second.Add(second, big.NewInt(int64(len(b)-i)*int64(c)))
	}
	m := big.NewInt(255)
	return first.Mod(first, m).Sign() == 0 && second.Mod(second, m).Sign() == 0
}

func with(b []byte, at int, c ...byte) []byte {
	r := slices.Clone(b)
	copy(r[at:], c)
	return r
}

// P4.1
func TestInternet(t *testing.T) {
	for _, c := range []struct {
		b    []byte
		want int
	}{
		{[]byte{0, 1, 242, 3, 244, 245, 246, 247}, 8717},
		{nil, 65535},
		{[]byte{0}, 65535},
		{[]byte{0, 0, 0}, 65535},
		{[]byte{255, 255}, 0},
		{[]byte{255, 255, 255, 255}, 0},
		{[]byte{255, 254, 0, 1}, 0},
		{[]byte{1}, 65279},
		{[]byte{0, 1}, 65534},
		{[]byte{255, 255, 0, 1}, 65534},
		{[]byte{0, 1, 2}, 65535 - 1 - 512},
	} {
		if n := checksum.Internet(c.b); n != c.want {
			t.Errorf("Internet(%v) = %d", c.b, n)
		}
	}
	for _, b := range lists() {
		if n := checksum.Internet(b); n != folded(b) {
			t.Errorf("Internet(%v) = %d, not %d", b, n, folded(b))
		}
	}
}

// P4.1: all lists of one and of two bytes, and sums above 2^32.
func TestInternetOfAllWords(t *testing.T) {
	for word := range 1 << 16 {
		want := 65535 - word
		if n := checksum.Internet([]byte{byte(word >> 8), byte(word)}); n != want {
			t.Fatalf("Internet of the word %d is %d", word, n)
		}
		if word%256 == 0 {
			if n := checksum.Internet([]byte{byte(word >> 8)}); n != want {
				t.Fatalf("Internet of the byte %d is %d", word>>8, n)
			}
		}
	}
	for _, n := range []int{1 << 18, 1<<18 + 1} {
		b := bytes.Repeat([]byte{255, 254, 253}, n)
		if checksum.Internet(b) != folded(b) {
			t.Error("Internet of a long list", n, checksum.Internet(b))
		}
	}
}

// P4.2: the pair is the only one, and the bytes at its indices do not matter.
func TestFletcher(t *testing.T) {
	if n, ok := checksum.Fletcher([]byte{1, 0, 0}, 1); n != 64769 || !ok {
		t.Error("Fletcher([1, 0, 0], 1)", n, ok)
	}
	for _, b := range lists() {
		if len(b) > 8 {
			continue
		}
		for at := range len(b) - 1 {
			n, ok := checksum.Fletcher(b, at)
			var pairs []int
			for x := 1; x <= 255; x++ {
				for y := 1; y <= 255; y++ {
					if valid(with(b, at, byte(x), byte(y))) {
						pairs = append(pairs, 256*x+y)
					}
				}
			}
			if !ok || !slices.Equal(pairs, []int{n}) {
				t.Errorf("Fletcher(%v, %d) = %d, %v, but the pairs are %v", b, at, n, ok, pairs)
			}
		}
	}
}

// P4.2, P4.5
func TestFletcherStored(t *testing.T) {
	for _, b := range lists() {
		for at := range len(b) - 1 {
			n, ok := checksum.Fletcher(b, at)
			x, y := n/256, n%256
			if !ok || x < 1 || x > 255 || y < 1 {
				t.Fatalf("Fletcher of %d bytes at %d is %d, %v", len(b), at, n, ok)
			}
			stored := with(b, at, byte(x), byte(y))
			if !checksum.Valid(stored) || len(b) < 300 && !valid(stored) {
				t.Fatalf("%d bytes with %d stored at %d are not valid", len(b), n, at)
			}
			if m, _ := checksum.Fletcher(stored, at); m != n {
				t.Fatalf("Fletcher of %d bytes at %d depends on the bytes there", len(b), at)
			}
			if m, _ := checksum.Fletcher(with(b, at, 0, 255), at); m != n {
				t.Fatalf("Fletcher of %d bytes at %d depends on the bytes there", len(b), at)
			}
		}
	}
}

// P4.2
func TestFletcherOutside(t *testing.T) {
	for _, b := range lists() {
		n := len(b)
		for _, at := range []int{-1, -2, n - 1, n, n + 1, n + 255, -1 << 32, 1 << 32, math.MaxInt, math.MaxInt - 1, math.MinInt, math.MinInt + 1} {
			if m, ok := checksum.Fletcher(b, at); m != 0 || ok {
				t.Errorf("Fletcher of %d bytes at %d is %d, %v", n, at, m, ok)
			}
		}
	}
}

// P4.3
func TestValid(t *testing.T) {
	for _, b := range [][]byte{nil, {}, {0}, {255}, {255, 255}, {0, 0, 0}, {1, 253, 1}, make([]byte, 1000), {0, 255, 0}} {
		if !checksum.Valid(b) {
			t.Errorf("Valid(%v) = false", b)
		}
	}
	// Of the last two, only one sum is a multiple of 255: the first one of 1, 254, the second one of 127, 1.
	for _, b := range [][]byte{{1}, {254}, {1, 253, 2}, {1, 0}, {0, 1}, {1, 254}, {127, 1}} {
		if checksum.Valid(b) {
			t.Errorf("Valid(%v) = true", b)
		}
	}
	for _, b := range lists() {
		if checksum.Valid(b) != valid(b) {
			t.Errorf("Valid(%v) = %v", b, checksum.Valid(b))
		}
	}
	for x := range 256 {
		for y := range 256 {
			for z := range 5 {
				b := []byte{byte(x), byte(y), byte(z * 63)}
				if checksum.Valid(b) != valid(b) {
					t.Fatalf("Valid(%v) = %v", b, checksum.Valid(b))
				}
			}
		}
	}
}

// P4.3: the second sum of a long list is far above 2^32.
func TestValidOfLongList(t *testing.T) {
	b := bytes.Repeat([]byte{3, 254, 9, 255, 17}, 200000)
	n, ok := checksum.Fletcher(b, 500001)
	stored := with(b, 500001, byte(n/256), byte(n%256))
	if !ok || !checksum.Valid(stored) || !valid(stored) {
		t.Error("a long list with its checksum is not valid", n, ok)
	}
	stored[700000]++
	if checksum.Valid(stored) {
		t.Error("a long list that was changed is valid")
	}
}

// P4.4
func TestHash(t *testing.T) {
	if h := checksum.Hash(nil); h != 2166136261 {
		t.Error("Hash of no bytes", h)
	}
	if h := checksum.Hash([]byte{97}); h != 3826002220 {
		t.Error("Hash of 97", h)
	}
	for _, b := range lists() {
		h := fnv.New32a()
		h.Write(b)
		if checksum.Hash(b) != h.Sum32() {
			t.Errorf("Hash(%v) = %d, not %d", b, checksum.Hash(b), h.Sum32())
		}
	}
}

// P4.6
func TestDetectionOfOneByte(t *testing.T) {
	for _, b := range lists() {
		if len(b) < 2 || len(b) > 30 && len(b) != 257 {
			continue
		}
		n, _ := checksum.Fletcher(b, len(b)/2-1)
		good := with(b, len(b)/2-1, byte(n/256), byte(n%256))
		sum := checksum.Internet(good)
		for i := range good {
			for c := range 256 {
				old := int(good[i])
				if c == old {
					continue
				}
				bad := with(good, i, byte(c))
				same := c+old == 255 && c*old == 0
				if checksum.Valid(bad) != same {
					t.Fatalf("byte %d of %d replaced, %d by %d: Valid is %v", i, len(b), old, c, !same)
				}
				if checksum.Internet(bad) == sum {
					t.Fatalf("byte %d of %d replaced, %d by %d: Internet is the same", i, len(b), old, c)
				}
			}
		}
	}
}

// P4.7
func TestOrderOfWords(t *testing.T) {
	for _, b := range lists() {
		if len(b)%2 != 0 {
			continue
		}
		for _, step := range []int{1, 3, 7} {
			var moved []byte
			for i := range len(b) / 2 {
				j := (len(b)/2 - 1 - i + step) % (len(b) / 2) // in reverse and from elsewhere
				moved = append(moved, b[2*j:2*j+2]...)
			}
			if checksum.Internet(moved) != checksum.Internet(b) {
				t.Errorf("Internet of %d bytes depends on the order of words", len(b))
			}
		}
	}
}

// R5
func TestArgumentsAreNotModified(t *testing.T) {
	all := []byte{1, 2, 3, 4, 5, 0xee, 0xee, 0xee, 0xee}
	before := slices.Clone(all)
	for at := range 4 {
		checksum.Fletcher(all[:5], at)
	}
	checksum.Internet(all[:5])
	checksum.Valid(all[:5])
	checksum.Hash(all[:5])
	if !bytes.Equal(all, before) {
		t.Error("an argument was modified", all)
	}
}
