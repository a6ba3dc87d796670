package lsa_test

import (
	"bytes"
	"encoding/binary"
	"math/rand/v2"
	"slices"
	"testing"

	"routing/api"
	"routing/lsa"
)

// P23.4, P23.5, P23.6, P23.8: any valid advertisement and header, with anything behind the encoding.
func TestRoundTrip(t *testing.T) {
	r := rand.New(rand.NewPCG(23, 4))
	for range 2000 {
		l := anyLSA(r)
		want := sealed(l)
		s, e := lsa.Seal(l)
		if e != api.OK || !equal(s, want) {
			t.Fatalf("Seal(%v) = %v, %v", l, s, e)
		}
		b, e := lsa.Encode(s)
		if e != api.OK || !bytes.Equal(b, wire(want)) {
			t.Fatalf("Encode(%v) = %v, %v", s, b, e)
		}
		rest := make([]byte, r.IntN(3))
		d, n, e := lsa.Decode(append(slices.Clone(b), rest...))
		if e != api.OK || n != len(b) || !equal(d, s) {
			t.Fatalf("Decode(%v) = %v, %d, %v", b, d, n, e)
		}
		h, e := lsa.EncodeHeader(l.Header)
		if e != api.OK || !bytes.Equal(h, wireHeader(l.Header)) {
			t.Fatalf("EncodeHeader(%v) = %v, %v", l.Header, h, e)
		}
		header, e := lsa.DecodeHeader(append(h, rest...))
		if e != api.OK || header != l.Header {
			t.Fatalf("DecodeHeader(%v) = %v, %v", h, header, e)
		}
	}
}

// P23.5: an encoding byte by byte, and example 1.
func TestEncode(t *testing.T) {
	for _, x := range []struct {
		l    api.LSA
		body []byte
	}{
		{api.LSA{Header: head(1)}, []byte{0, 0}},
		{api.LSA{Header: head(1), Border: true}, []byte{1, 0}},
		{api.LSA{Header: head(1), Boundary: true, Links: []api.LSLink{{Kind: 3, ID: 0x0a000000, Data: 8, Cost: 258}}}, []byte{2, 1, 3, 10, 0, 0, 0, 0, 0, 0, 8, 1, 2}},
		{api.LSA{Header: head(2), Attached: []uint32{7, 0x01020304}}, []byte{2, 0, 0, 0, 7, 1, 2, 3, 4}},
		{api.LSA{Header: head(3), Cost: 0x010203}, []byte{0, 1, 2, 3}},
		{api.LSA{Header: head(4), Cost: maxCost}, []byte{1, 0, 0, 0}},
		{api.LSA{Header: head(5), Second: true, Cost: 5, Forward: 0x0a000001, Tag: maxAS}, []byte{1, 0, 0, 0, 5, 10, 0, 0, 1, 255, 255, 255, 255}},
	} {
		x.l.Header.Seq, x.l.Header.Age = 0x01020304, 0x0506
		s, _ := lsa.Seal(x.l)
		b, e := lsa.Encode(s)
		h := s.Header
		want := []byte{5, 6, byte(h.Type), byte(h.Len), byte(h.ID >> 24), 0, 0, byte(h.ID), 0, 0, 0, 7, 1, 2, 3, 4, byte(h.Sum >> 8), byte(h.Sum), 0, byte(len(x.body))}
		if e != api.OK || !bytes.Equal(b, append(want, x.body...)) {
			t.Errorf("Encode(%v) = %v, %v", s, b, e)
		}
	}
}

// P23.5: what is not sealed is not encoded.
func TestEncodeNotSealed(t *testing.T) {
	r := rand.New(rand.NewPCG(23, 5))
	for range 500 {
		l := sealed(anyLSA(r))
		l.Header.Sum = (l.Header.Sum + 1 + r.IntN(65535)) % 65536
		if b, e := lsa.Encode(l); e != api.ErrChecksum || b != nil {
			t.Fatalf("Encode(%v) = %v, %v", l, b, e)
		}
		if got, n, e := lsa.Decode(wire(l)); e != api.ErrChecksum || n != 0 || !equal(got, api.LSA{}) {
			t.Fatalf("Decode(%v) = %v, %d, %v", wire(l), got, n, e)
		}
	}
}

// P23.10: the age is not part of what is sealed.
func TestAge(t *testing.T) {
	r := rand.New(rand.NewPCG(23, 10))
	for range 500 {
		l := sealed(anyLSA(r))
		l.Header.Age = r.IntN(maxAge + 1)
		b, e := lsa.Encode(l)
		if d, _, f := lsa.Decode(b); e != api.OK || f != api.OK || !equal(d, l) {
			t.Fatal(l, e, f)
		}
	}
}

// P23.10: damage of one byte.
func TestDamage(t *testing.T) {
	r := rand.New(rand.NewPCG(23, 11))
	for kind := 1; kind <= 5; kind++ {
		for range 3 {
			l := anyLSA(r)
			for l.Header.Type != kind || len(l.Links) > 5 || len(l.Attached) > 5 {
				l = anyLSA(r)
			}
			b := wire(sealed(l))
			for i := 2; i < len(b); i++ {
				for c := range 256 {
					if d := int(b[i]); d == c || d+c == 255 && (d == 0 || c == 0) {
						continue
					}
					damaged := slices.Clone(b)
					damaged[i] = byte(c)
					if got, n, e := lsa.Decode(damaged); e == api.OK || n != 0 || !equal(got, api.LSA{}) {
						t.Fatalf("%v with %d at %d: %v, %d, %v", b, c, i, got, n, e)
					}
				}
			}
		}
	}
}

// decodeError is the promise of Decode, except that an advertisement with no error is not returned.
func decodeError(b []byte) api.Errno {
	if len(b) < 20 {
		return api.ErrTruncated
	}
	if b[2] < 1 || b[2] > 5 {
		return api.ErrKind
	}
	size := int(binary.BigEndian.Uint16(b[18:]))
	if size > len(b)-20 {
		return api.ErrTruncated
	}
	l := api.LSA{Header: parseHeader(b)}
	if !parseBody(&l, b[20:20+size]) {
		return api.ErrSyntax
	}
	if e := checkError(l); e != api.OK {
		return e
	}
	return first(rule{api.ErrChecksum, sumOf(l) != l.Header.Sum})
}

func parseHeader(b []byte) api.LSAHeader {
	big := binary.BigEndian
	return api.LSAHeader{Age: int(big.Uint16(b)), Type: int(b[2]), Len: int(b[3]), ID: big.Uint32(b[4:]), Router: big.Uint32(b[8:]), Seq: int(big.Uint32(b[12:])), Sum: int(big.Uint16(b[16:]))}
}

// parseBody reports whether b has the form of the type of l, whose fields it sets.
func parseBody(l *api.LSA, b []byte) bool {
	big := binary.BigEndian
	switch l.Header.Type {
	case 1:
		if len(b) < 2 || len(b) != 2+11*int(b[1]) || b[0] > 3 {
			return false
		}
		l.Border, l.Boundary = b[0]%2 == 1, b[0]/2 == 1
		for k := range slices.Chunk(b[2:], 11) {
			l.Links = append(l.Links, api.LSLink{Kind: int(k[0]), ID: big.Uint32(k[1:]), Data: big.Uint32(k[5:]), Cost: int(big.Uint16(k[9:]))})
		}
	case 2:
		if len(b) < 1 || len(b) != 1+4*int(b[0]) {
			return false
		}
		for a := range slices.Chunk(b[1:], 4) {
			l.Attached = append(l.Attached, big.Uint32(a))
		}
	case 3, 4:
		if len(b) != 4 {
			return false
		}
		l.Cost = int(big.Uint32(b))
	case 5:
		if len(b) != 13 || b[0] > 1 {
			return false
		}
		l.Second, l.Cost, l.Forward, l.Tag = b[0] == 1, int(big.Uint32(b[1:])), api.Addr(big.Uint32(b[5:])), int(big.Uint32(b[9:]))
	}
	return true
}

// checkDecode compares Decode and DecodeHeader with their definitions, and returns the error.
func checkDecode(t *testing.T, b []byte) api.Errno {
	t.Helper()
	want := decodeError(b)
	l, n, e := lsa.Decode(b)
	if e != want {
		t.Fatalf("Decode(%v): %v, not %v", b, e, want)
	}
	if e != api.OK && (n != 0 || !equal(l, api.LSA{})) {
		t.Fatalf("Decode(%v) = %v, %d, %v", b, l, n, e)
	}
	if e == api.OK && (n > len(b) || !bytes.Equal(wire(l), b[:n])) {
		t.Fatalf("Decode(%v) = %v, %d, which is encoded as %v", b, l, n, wire(l))
	}
	h, eh := lsa.DecodeHeader(b)
	wantHeader := api.ErrTruncated
	if len(b) >= 18 {
		wantHeader = headerError(parseHeader(b))
	}
	if eh != wantHeader || eh != api.OK && h != (api.LSAHeader{}) {
		t.Fatalf("DecodeHeader(%v) = %v, %v, not %v", b, h, eh, wantHeader)
	}
	if eh == api.OK && !bytes.Equal(wireHeader(h), b[:18]) {
		t.Fatalf("DecodeHeader(%v) = %v", b, h)
	}
	return e
}

// reseal sets the sum of an encoding of any contents, so that errors behind the checksum can be seen to come first.
func reseal(b []byte) []byte {
	l := api.LSA{Header: parseHeader(b)}
	if b[2] >= 1 && b[2] <= 5 && len(b) >= 20 && parseBody(&l, b[20:]) && len(b)-20 == int(binary.BigEndian.Uint16(b[18:])) {
		return wire(sealed(l))
	}
	return b
}

// P23.5, P23.6, P23.8: invalid advertisements, whose encodings are sealed or not.
func TestDecodeInvalid(t *testing.T) {
	r := rand.New(rand.NewPCG(23, 12))
	found := map[api.Errno]int{}
	for range 20000 {
		l := anyLSA(r)
		for range 1 + r.IntN(2) {
			l = damaged(r, l)
		}
		b := wire(l)
		if r.IntN(4) == 0 {
			b[r.IntN(len(b))] = byte(r.IntN(256))
		}
		if r.IntN(2) == 0 {
			b = reseal(b)
		}
		found[checkDecode(t, b)]++
	}
	for _, e := range []api.Errno{api.OK, api.ErrTruncated, api.ErrKind, api.ErrSyntax, api.ErrChecksum, api.ErrRange, api.ErrMismatch, api.ErrInvalid, api.ErrTooLong, api.ErrOrder} {
		if found[e] < 10 {
			t.Errorf("only %d encodings with %v", found[e], e)
		}
	}
}

// P23.5, P23.6: all beginnings of an encoding, and other lengths of the body.
func TestDecodeLengths(t *testing.T) {
	r := rand.New(rand.NewPCG(23, 13))
	for range 200 {
		b := wire(sealed(anyLSA(r)))
		for n := range len(b) {
			if e := checkDecode(t, b[:n:n]); e != api.ErrTruncated {
				t.Fatalf("%d bytes of %v: %v", n, b, e)
			}
		}
		longer := append(slices.Clone(b), make([]byte, 300)...)
		for _, n := range []int{0, 1, len(b) - 21, len(b) - 19, len(b) - 16, len(b) - 9, 256 + len(b) - 20, 65535} {
			binary.BigEndian.PutUint16(longer[18:], uint16(n))
			want := api.ErrSyntax
			if n > len(longer)-20 {
				want = api.ErrTruncated
			}
			if e := checkDecode(t, longer); e != want {
				t.Fatalf("%v with a body of %d bytes: %v, not %v", b, n, e, want)
			}
		}
	}
}

// P23.5: the order of the errors.
func TestDecodeOrder(t *testing.T) {
	zero := make([]byte, 20)
	kind := func(b []byte, kind byte) []byte {
		b = slices.Clone(b)
		b[2] = kind
		return b
	}
	long := kind(zero, 3)
	long[19] = 1
	flags := func(kind byte, body ...byte) []byte {
		b := append(slices.Clone(zero), body...)
		b[2], b[19] = kind, byte(len(body))
		return b
	}
	for _, x := range []struct {
		b []byte
		e api.Errno
	}{
		{nil, api.ErrTruncated},
		{zero[:19], api.ErrTruncated},
		{zero, api.ErrKind},
		{kind(long, 0), api.ErrKind},
		{kind(long, 6), api.ErrKind},
		{kind(long, 255), api.ErrKind},
		{long, api.ErrTruncated},
		{kind(zero, 1), api.ErrSyntax},
		{kind(zero, 5), api.ErrSyntax},
		{flags(1, 4, 0), api.ErrSyntax},
		{flags(1, 128, 0), api.ErrSyntax},
		{flags(1, 3, 0), api.ErrRange},
		{flags(1, 3, 1), api.ErrSyntax},
		{flags(5, append([]byte{2}, zero[:12]...)...), api.ErrSyntax},
		{flags(5, append([]byte{1}, zero[:12]...)...), api.ErrRange},
		{flags(3, 0, 0, 0, 0), api.ErrRange},
		{flags(3, 0, 0, 0, 0, 0), api.ErrSyntax},
		{flags(4, 0, 0, 0), api.ErrSyntax},
		{flags(2), api.ErrSyntax},
		{flags(2, 0), api.ErrRange},
		{flags(2, 0, 0), api.ErrSyntax},
		{flags(2, 1, 0, 0, 0), api.ErrSyntax},
	} {
		if e := checkDecode(t, x.b); e != x.e {
			t.Errorf("Decode(%v): %v, not %v", x.b, e, x.e)
		}
	}
}

// P23.5: lists that are too long for the check are read before it.
func TestDecodeLong(t *testing.T) {
	for n := 64; n < 256; n++ {
		l := plain(1)
		l.Links = links(n)
		want := api.OK
		if n > 64 {
			want = api.ErrTooLong
		}
		if e := checkDecode(t, wire(sealed(l))); e != want {
			t.Errorf("%d links: %v", n, e)
		}
		l = plain(2)
		for i := range uint32(n - 1) {
			l.Attached = append(l.Attached, 8+i)
		}
		if e := checkDecode(t, wire(sealed(l))); e != want {
			t.Errorf("%d attached routers: %v", n, e)
		}
	}
}

// P23.5, P23.6: any bytes.
func TestDecodeAny(t *testing.T) {
	r := rand.New(rand.NewPCG(23, 14))
	for range 20000 {
		b := make([]byte, r.IntN(60))
		for i := range b {
			b[i] = pick(r, 0, 0, 1, byte(r.IntN(256)))
		}
		if len(b) > 20 {
			b[18], b[19] = 0, pick(r, byte(len(b)-20), byte(r.IntN(60)))
		}
		checkDecode(t, b)
	}
}
