package field_test

import (
	"bytes"
	"encoding/binary"
	"fmt"
	"math"
	"math/big"
	"regexp"
	"slices"
	"strings"
	"testing"

	"routing/api"
	"routing/field"
)

func numbers() []uint64 {
	l := []uint64{0, 1, 255, 256, 258, 65535, 65536, 0x01020304, 0x0102030405060708, 0xfffefdfcfbfaf9f8, 1 << 63, math.MaxUint64}
	x := uint64(7)
	for range 50 {
		x = x*6364136223846793005 + 1442695040888963407
		l = append(l, x, x>>13, x>>40)
	}
	return l
}

// roomy returns a list with these bytes and with spare capacity, and all of its memory.
func roomy(b ...byte) ([]byte, []byte) {
	all := bytes.Repeat([]byte{0xee}, len(b)+100)
	copy(all, b)
	return all[:len(b)], all
}

// sequences returns all texts of at most n of the symbols.
func sequences(symbols []string, n int) []string {
	l, longest := []string{""}, []string{""}
	for range n {
		var longer []string
		for _, s := range longest {
			for _, c := range symbols {
				longer = append(longer, s+c)
			}
		}
		l, longest = append(l, longer...), longer
	}
	return l
}

// P3.1
func TestPut(t *testing.T) {
	if b := field.Put([]byte{1}, 2, 258); !slices.Equal(b, []byte{1, 1, 2}) {
		t.Error("Put([1], 2, 258)", b)
	}
	for _, x := range numbers() {
		eight := binary.BigEndian.AppendUint64(nil, x)
		for n := range 9 {
			for _, before := range [][]byte{nil, {}, {7}, {7, 0, 255}} {
				want := append(slices.Clone(before), eight[8-n:]...)
				if b := field.Put(before, n, x); !bytes.Equal(b, want) {
					t.Errorf("Put(%v, %d, %d) = %v", before, n, x, b)
				}
			}
		}
		for _, n := range []int{-1, -8, -1 << 32, math.MinInt} {
			if b := field.Put([]byte{7}, n, x); !bytes.Equal(b, []byte{7}) {
				t.Errorf("Put([7], %d, %d) = %v", n, x, b)
			}
		}
		for _, n := range []int{9, 16, 64, 1<<32 + 1, math.MaxInt} {
			if b := field.Put([]byte{7}, n, x); !bytes.Equal(b, append([]byte{7}, eight...)) {
				t.Errorf("Put([7], %d, %d) = %v", n, x, b)
			}
		}
	}
}

// P3.1: the list is new.
func TestPutReturnsNewList(t *testing.T) {
	for _, n := range []int{-1, 0, 1, 8, 9} {
		b, all := roomy(1, 2, 3)
		before := slices.Clone(all)
		r := field.Put(b, n, math.MaxUint64)
		r = r[:cap(r)]
		for i := range r {
			r[i] ^= 0x55
		}
		if !bytes.Equal(all, before) {
			t.Errorf("Put with %d bytes shares memory with its argument", n)
		}
	}
}

// P3.2
func TestGet(t *testing.T) {
	if x, ok := field.Get([]byte{1, 1, 2}, 1, 2); x != 258 || !ok {
		t.Error("Get([1, 1, 2], 1, 2)", x, ok)
	}
	if x, ok := field.Get([]byte{1}, 0, 2); x != 0 || ok {
		t.Error("Get([1], 0, 2)", x, ok)
	}
	extremes := []int{math.MinInt, math.MinInt + 1, math.MinInt + 8, -1 << 32, 1 << 32, math.MaxInt - 8, math.MaxInt - 1, math.MaxInt}
	indices, sizes := slices.Clone(extremes), slices.Clone(extremes)
	for i := -10; i < 24; i++ {
		indices, sizes = append(indices, i), append(sizes, i)
	}
	for length := range 20 {
		// The memory behind the list must not be read.
		b, _ := roomy([]byte("\xff\x01\x80\x00\x00\x7f\xfe\x03\x04\x05\x06\x07\x08\x09\x0a\x0b\x0c\x0d\x0e\x0f")[:length]...)
		for _, at := range indices {
			for _, n := range sizes {
				checkGet(t, b, at, n)
			}
		}
	}
	if x, ok := field.Get(nil, 0, 0); x != 0 || !ok {
		t.Error("Get(nil, 0, 0)", x, ok)
	}
}

func checkGet(t *testing.T, b []byte, at, n int) {
	t.Helper()
	end := new(big.Int).Add(big.NewInt(int64(at)), big.NewInt(int64(n)))
	valid := n >= 0 && n <= 8 && at >= 0 && end.Cmp(big.NewInt(int64(len(b)))) <= 0
	want := new(big.Int)
	if valid {
		want.SetBytes(b[at : at+n])
	}
	if x, ok := field.Get(b, at, n); ok != valid || x != want.Uint64() {
		t.Errorf("Get(%v, %d, %d) = %d, %v", b, at, n, x, ok)
	}
}

// P3.3
func TestDecimal(t *testing.T) {
	for _, x := range numbers() {
		for _, n := range []int{int(x), -int(x), int(x % 1000), int(x % 10)} {
			if s := field.Decimal(n); s != fmt.Sprint(n) {
				t.Errorf("Decimal(%d) = %q", n, s)
			}
		}
	}
	for n, want := range map[int]string{0: "0", 7: "7", -7: "-7", 10: "10", -100: "-100", math.MaxInt: "9223372036854775807", math.MinInt: "-9223372036854775808"} {
		if s := field.Decimal(n); s != want {
			t.Errorf("Decimal(%d) = %q", n, s)
		}
	}
}

// P3.3
func TestNumber(t *testing.T) {
	texts := sequences([]string{"0", "1", "5", "9", "-", "+", " ", "_", ".", "e", "x", "/", ":", "\n", "\x00", "\xff", "٣"}, 3)
	texts = append(texts, "012", "99", "100", "0x10", "1_000", "65535", "65536", "4294967295", "4294967296",
		"9223372036854775799", "9223372036854775800", "9223372036854775806", "9223372036854775807", "9223372036854775808", "9223372036854775810", "9999999999999999999",
		"18446744073709551615", "18446744073709551616", "18446744073709551617", "99999999999999999999", "-9223372036854775808", "0000000000000000000000000001",
		strings.Repeat("9", 1000), strings.Repeat("9", 1000)+"x", strings.Repeat("0", 1000), "1"+strings.Repeat("0", 64))
	limits := []int{0, 1, 4, 5, 8, 9, 10, 15, 98, 99, 100, 254, 255, 256, 1000, 65535, 1<<32 - 1, math.MaxInt - 8, math.MaxInt - 7, math.MaxInt - 1, math.MaxInt, -1, -10, math.MinInt}
	form := regexp.MustCompile(`\A(0|[1-9][0-9]*)\z`)
	for _, s := range texts {
		for _, most := range limits {
			want, e := 0, api.ErrSyntax
			if form.MatchString(s) {
				n, _ := new(big.Int).SetString(s, 10)
				if n.Cmp(big.NewInt(int64(most))) > 0 {
					e = api.ErrRange
				} else {
					want, e = int(n.Int64()), api.OK
				}
			}
			if n, f := field.Number(s, most); n != want || f != e {
				t.Errorf("Number(%q, %d) = %d, %v", s, most, n, f)
			}
		}
	}
}

// encoding is the encoding of a typed field by the definition.
func encoding(kind int, value []byte) []byte {
	return append([]byte{byte(kind), byte(len(value) / 256), byte(len(value) % 256)}, value...)
}

func valueOf(size int) []byte {
	b := make([]byte, size)
	for i := range b {
		b[i] = byte(i*7 + size)
	}
	return b
}

// P3.4
func TestPutTLV(t *testing.T) {
	if b, e := field.PutTLV(nil, api.TLV{Kind: 5, Value: []byte{7}}); !bytes.Equal(b, []byte{5, 0, 1, 7}) || e != api.OK {
		t.Error("PutTLV of {5, [7]}", b, e)
	}
	for _, kind := range []int{0, 1, 5, 127, 128, 255} {
		for _, size := range []int{0, 1, 2, 255, 256, 257, 65534, 65535} {
			for _, before := range [][]byte{nil, {}, {9}, {9, 8, 7}} {
				v := valueOf(size)
				b, e := field.PutTLV(before, api.TLV{Kind: kind, Value: v})
				if !bytes.Equal(b, append(slices.Clone(before), encoding(kind, v)...)) || e != api.OK {
					t.Errorf("PutTLV of kind %d with %d bytes after %v: %v", kind, size, before, e)
				}
			}
		}
	}
}

// P3.4: invalid fields; the kind is checked first.
func TestPutTLVErrors(t *testing.T) {
	for _, kind := range []int{-1, 256, 257, 1 << 32, math.MinInt, math.MaxInt} {
		for _, size := range []int{0, 1, 65535, 65536} {
			if b, e := field.PutTLV([]byte{9}, api.TLV{Kind: kind, Value: valueOf(size)}); len(b) != 0 || e != api.ErrRange {
				t.Errorf("PutTLV of kind %d with %d bytes: %d bytes, %v", kind, size, len(b), e)
			}
		}
	}
	for _, kind := range []int{0, 255} {
		for _, size := range []int{65536, 65537, 1 << 17} {
			if b, e := field.PutTLV([]byte{9}, api.TLV{Kind: kind, Value: valueOf(size)}); len(b) != 0 || e != api.ErrTooLong {
				t.Errorf("PutTLV of kind %d with %d bytes: %d bytes, %v", kind, size, len(b), e)
			}
		}
	}
}

// P3.4: the list is new.
func TestPutTLVReturnsNewList(t *testing.T) {
	b, all := roomy(1, 2, 3)
	v, whole := roomy(4, 5)
	before, wholeBefore := slices.Clone(all), slices.Clone(whole)
	for _, start := range [][]byte{b, nil} {
		r, _ := field.PutTLV(start, api.TLV{Kind: 1, Value: v})
		r = r[:cap(r)]
		for i := range r {
			r[i] ^= 0x55
		}
	}
	if !bytes.Equal(all, before) || !bytes.Equal(whole, wholeBefore) {
		t.Error("PutTLV shares memory with its arguments")
	}
}

func tlv(kind int, value ...byte) api.TLV {
	return api.TLV{Kind: kind, Value: value}
}

func sameFields(a, b []api.TLV) bool {
	return slices.EqualFunc(a, b, func(x, y api.TLV) bool {
		return x.Kind == y.Kind && bytes.Equal(x.Value, y.Value)
	})
}

// P3.5
func TestTLVs(t *testing.T) {
	for _, b := range [][]byte{nil, {}} {
		if l, e := field.TLVs(b); len(l) != 0 || e != api.OK {
			t.Errorf("TLVs(%v) = %v, %v", b, l, e)
		}
	}
	if l, e := field.TLVs([]byte{5, 0, 1}); len(l) != 0 || e != api.ErrTruncated {
		t.Error("TLVs([5, 0, 1])", l, e)
	}
	if l, e := field.TLVs([]byte{5, 0, 1, 7, 255, 0, 0, 5, 0, 2, 1, 2}); e != api.OK || !sameFields(l, []api.TLV{tlv(5, 7), tlv(255), tlv(5, 1, 2)}) {
		t.Error("TLVs of three fields", l, e)
	}
	long := valueOf(65535)
	if l, e := field.TLVs(append(encoding(0, long), encoding(9, long[:300])...)); e != api.OK || !sameFields(l, []api.TLV{tlv(0, long...), tlv(9, long[:300]...)}) {
		t.Error("TLVs of long fields", len(l), e)
	}
	if l, e := field.TLVs(encoding(0, long)[:65537]); len(l) != 0 || e != api.ErrTruncated {
		t.Error("TLVs of a long field that is cut off", len(l), e)
	}
}

// P3.5: all that is not a sequence of encodings is truncated, and no fields are returned then.
func TestTLVsTruncated(t *testing.T) {
	fields := []api.TLV{tlv(1, 9), tlv(0), tlv(200, 0, 0, 0, 0), tlv(3, valueOf(260)...)}
	var b []byte
	ends := map[int]int{0: 0}
	for i, f := range fields {
		b = append(b, encoding(f.Kind, f.Value)...)
		ends[len(b)] = i + 1
	}
	for n := range len(b) + 1 {
		// The rest of the bytes lies behind the list and must not be read.
		l, e := field.TLVs(b[:n])
		count, whole := ends[n]
		if whole && (e != api.OK || !sameFields(l, fields[:count])) {
			t.Errorf("TLVs of %d bytes: %v, %v", n, l, e)
		}
		if !whole && (e != api.ErrTruncated || len(l) != 0) {
			t.Errorf("TLVs of %d bytes, in the middle of a field: %v, %v", n, l, e)
		}
	}
}

// P3.5, R5: the values share no memory with each other or with the argument.
func TestTLVsReturnsNewMemory(t *testing.T) {
	b, all := roomy(1, 0, 2, 10, 11, 2, 0, 0, 3, 0, 1, 12)
	before := slices.Clone(all)
	want := []api.TLV{tlv(1, 10, 11), tlv(2), tlv(3, 12)}
	for i := range want {
		l, e := field.TLVs(b)
		if e != api.OK || !sameFields(l, want) {
			t.Fatal("TLVs", l, e)
		}
		v := l[i].Value[:cap(l[i].Value)]
		for j := range v {
			v[j] ^= 0x55
		}
		for j := range want {
			if j != i && !bytes.Equal(l[j].Value, want[j].Value) {
				t.Errorf("values %d and %d share memory", i, j)
			}
		}
		if !bytes.Equal(all, before) {
			t.Errorf("value %d shares memory with the argument", i)
		}
	}
}

// P3.6
func TestWords(t *testing.T) {
	for line, want := range map[string][]string{"": nil, "a": {"a"}, "a b": {"a", "b"}, "add prefix 10.0.0.0/8": {"add", "prefix", "10.0.0.0/8"}, "\t": {"\t"}, "a\tb \r": {"a\tb", "\r"}, "\x00 \xff": {"\x00", "\xff"}, "\u00a0 \u2003": {"\u00a0", "\u2003"}} {
		if l, e := field.Words(line); e != api.OK || !slices.Equal(l, want) {
			t.Errorf("Words(%q) = %q, %v", line, l, e)
		}
	}
	for _, line := range []string{" a", "a ", "a  b", " ", "  ", "\n", "a\n", "\na", "a\nb", "a \n b", "a b\n", " \n", "a   b"} {
		if l, e := field.Words(line); e != api.ErrSyntax || len(l) != 0 {
			t.Errorf("Words(%q) = %q, %v", line, l, e)
		}
	}
	for _, line := range sequences([]string{"a", "b", " ", "\n", "\t", "é"}, 6) {
		bad := strings.ContainsRune(line, '\n') || strings.HasPrefix(line, " ") || strings.HasSuffix(line, " ") || strings.Contains(line, "  ")
		l, e := field.Words(line)
		if bad && (e != api.ErrSyntax || len(l) != 0) {
			t.Errorf("Words(%q) = %q, %v", line, l, e)
		}
		want := strings.FieldsFunc(line, func(c rune) bool { return c == ' ' })
		if !bad && (e != api.OK || !slices.Equal(l, want)) {
			t.Errorf("Words(%q) = %q, %v", line, l, e)
		}
	}
}

// P3.7
func TestRoundTripOfNumbers(t *testing.T) {
	for _, x := range numbers() {
		for n := range 9 {
			fits := n == 8 || x < 1<<(8*n)
			b := field.Put([]byte{1, 2}, n, x)
			if y, ok := field.Get(b, 2, n); fits && (y != x || !ok) {
				t.Errorf("Get of Put of %d in %d bytes is %d, %v", x, n, y, ok)
			}
		}
		for _, n := range []int{int(x >> 1), int(x % 1000)} {
			if m, e := field.Number(field.Decimal(n), n); m != n || e != api.OK {
				t.Errorf("Number(Decimal(%d)) = %d, %v", n, m, e)
			}
		}
	}
	for n := range 2000 {
		if m, e := field.Number(field.Decimal(n), n); m != n || e != api.OK {
			t.Errorf("Number(Decimal(%d)) = %d, %v", n, m, e)
		}
	}
}

// P3.7
func TestRoundTripOfFields(t *testing.T) {
	var b []byte
	var fields []api.TLV
	for kind := range 256 {
		f := api.TLV{Kind: kind, Value: valueOf(kind * 5 % 400)}
		fields = append(fields, f)
		longer, e := field.PutTLV(b, f)
		if e != api.OK {
			t.Fatal(e)
		}
		b = longer
	}
	if l, e := field.TLVs(b); e != api.OK || !sameFields(l, fields) {
		t.Error("TLVs of PutTLV", e)
	}
}

// P3.7
func TestRoundTripOfWords(t *testing.T) {
	for _, line := range sequences([]string{"a", "bc", " ", "\n", "\t"}, 6) {
		if l, e := field.Words(line); e == api.OK && strings.Join(l, " ") != line {
			t.Errorf("the words of %q are %q", line, l)
		}
	}
}
