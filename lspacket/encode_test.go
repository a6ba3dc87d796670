package lspacket_test

import (
	"bytes"
	"encoding/binary"
	"math/rand/v2"
	"slices"
	"testing"

	"routing/api"
	"routing/lspacket"
)

// P24.2, P24.3, P24.5: any valid packet.
func TestRoundTrip(t *testing.T) {
	r := rand.New(rand.NewPCG(24, 2))
	for range 3000 {
		p := anyPacket(r)
		b, e := lspacket.Encode(p)
		if e != api.OK || !bytes.Equal(b, wire(p)) {
			t.Fatalf("Encode(%v) = %v, %v", p, b, e)
		}
		q, e := lspacket.Decode(b)
		if e != api.OK || !equal(p, q) || !lspacket.Same(p, q) {
			t.Fatalf("Decode(%v) = %v, %v", b, q, e)
		}
		if again, e := lspacket.Encode(q); e != api.OK || !bytes.Equal(again, b) {
			t.Fatalf("Encode(%v) = %v, %v", q, again, e)
		}
	}
}

// P24.2: encodings byte by byte, and examples 1 and 2. The sums are those of the bytes that stand here.
func TestEncode(t *testing.T) {
	front := func(kind, size byte) []byte {
		return []byte{1, kind, 0, size, 1, 2, 3, 4, 0, 0, 0, 5, 10, 0, 0, 1, 0, 0}
	}
	ring := []byte{0, 9, 2, 24, 0, 0, 0, 3, 0, 0, 0, 7, 0, 0, 0, 1, 1, 2}
	h := header(3)
	h.Age, h.Sum = 9, 258
	for _, x := range []struct {
		p    api.LSPacket
		body []byte
	}{
		{api.LSPacket{Kind: 5}, []byte{0}},
		{api.LSPacket{Kind: 5, Headers: []api.LSAHeader{h}}, append([]byte{1}, ring...)},
		{api.LSPacket{Kind: 1, Hello: api.Hello{Len: 24, Hello: 258, Dead: 1286, Priority: 7, DR: 8, BDR: 9, Seen: []uint32{258}}}, []byte{24, 1, 2, 5, 6, 7, 0, 0, 0, 8, 0, 0, 0, 9, 1, 0, 0, 1, 2}},
		{api.LSPacket{Kind: 2, Seq: 258, Init: true, Headers: []api.LSAHeader{h}}, append([]byte{0, 0, 1, 2, 1, 1}, ring...)},
		{api.LSPacket{Kind: 2, More: true}, []byte{0, 0, 0, 0, 2, 0}},
		{api.LSPacket{Kind: 2, Master: true}, []byte{0, 0, 0, 0, 4, 0}},
		{api.LSPacket{Kind: 3, Keys: []api.LSAKey{{Type: 3, ID: 0x0a000000, Len: 8, Router: 258}}}, []byte{1, 3, 10, 0, 0, 0, 8, 0, 0, 1, 2}},
		{api.LSPacket{Kind: 4}, []byte{0}},
	} {
		x.p.Router, x.p.Area, x.p.Addr = 0x01020304, 5, 0x0a000001
		want := append(front(byte(x.p.Kind), byte(18+len(x.body))), x.body...)
		binary.BigEndian.PutUint16(want[16:], internet(want))
		if b, e := lspacket.Encode(x.p); e != api.OK || !bytes.Equal(b, want) {
			t.Errorf("Encode(%v) = %v, %v, not %v", x.p, b, e, want)
		}
	}
	b, _ := lspacket.Encode(api.LSPacket{Kind: 5, Router: 1})
	if !bytes.Equal(b, []byte{1, 5, 0, 19, 0, 0, 0, 1, 0, 0, 0, 0, 0, 0, 0, 0, 0xfe, 0xe6, 0}) {
		t.Error("an acknowledgement", b)
	}
}

// P24.2: the longest packet of each kind is encoded.
func TestLongest(t *testing.T) {
	r := rand.New(rand.NewPCG(24, 3))
	longest := map[int]int{}
	for range 3000 {
		p := anyPacket(r)
		longest[p.Kind] = max(longest[p.Kind], len(p.Hello.Seen), len(p.Headers), len(p.Keys), len(p.LSAs))
	}
	for kind := 1; kind <= 5; kind++ {
		if longest[kind] < 60 {
			t.Errorf("kind %d: at most %d elements", kind, longest[kind])
		}
	}
	p := plain(4)
	for i := range uint32(64) {
		l := network(i + 1)
		l.Header.Type, l.Header.ID, l.Header.Router, l.Header.Len, l.Attached = 1, i+1, i+1, 0, nil
		for j := range uint32(64) {
			l.Links = append(l.Links, api.LSLink{Kind: 2, ID: j, Cost: 65535})
		}
		p.LSAs = append(p.LSAs, resealed(l))
	}
	b, e := lspacket.Encode(p)
	if e != api.OK || len(b) != 19+64*(22+64*11) || !bytes.Equal(b, wire(p)) {
		t.Error("64 routers with 64 links", len(b), e)
	}
	if q, e := lspacket.Decode(b); e != api.OK || !equal(p, q) {
		t.Error("64 routers with 64 links", e)
	}
}

// checkDecode compares Decode with its definition, and returns the error.
func checkDecode(t *testing.T, b []byte) api.Errno {
	t.Helper()
	want := decodeError(b)
	p, e := lspacket.Decode(b)
	if e != want || e != api.OK && !equal(p, api.LSPacket{}) {
		t.Fatalf("Decode(%v) = %v, %v, not %v", b, p, e, want)
	}
	if e == api.OK && !bytes.Equal(wire(p), b) {
		t.Fatalf("Decode(%v) = %v, which is encoded as %v", b, p, wire(p))
	}
	return e
}

// resized returns b with the length and the checksum that it has.
func resized(b []byte) []byte {
	b = slices.Clone(b)
	binary.BigEndian.PutUint16(b[2:], uint16(len(b)))
	b[16], b[17] = 0, 0
	binary.BigEndian.PutUint16(b[16:], internet(b))
	return b
}

// P24.3: the order of the errors.
func TestDecodeOrder(t *testing.T) {
	zero := make([]byte, 19)
	change := func(b []byte, pairs ...int) []byte {
		b = slices.Clone(b)
		for i := 0; i < len(pairs); i += 2 {
			b[pairs[i]] = byte(pairs[i+1])
		}
		return b
	}
	body := func(kind int, body ...byte) []byte { return resized(append(change(zero[:18], 0, 1, 1, kind), body...)) }
	good := header(3)
	noRouter := good
	noRouter.Router = 0
	whole := wireHeaders([]api.LSAHeader{good})[1:]
	for _, x := range []struct {
		name string
		b    []byte
		e    api.Errno
	}{
		{"nothing", nil, api.ErrTruncated},
		{"17 bytes", zero[:17], api.ErrTruncated},
		{"version 0", zero[:18], api.ErrVersion},
		{"version 2, too long", change(zero, 0, 2, 3, 20), api.ErrVersion},
		{"length 20 of 19", change(zero, 0, 1, 3, 20), api.ErrTruncated},
		{"length 18 of 19", change(zero, 0, 1, 3, 18), api.ErrSyntax},
		{"length 0", change(zero, 0, 1), api.ErrSyntax},
		{"no checksum", change(zero, 0, 1, 3, 19), api.ErrChecksum},
		{"no checksum, kind 6", change(zero, 0, 1, 1, 6, 3, 19), api.ErrChecksum},
		{"kind 0", body(0), api.ErrKind},
		{"kind 6", body(6, 1, 2, 3), api.ErrKind},
		{"kind 255", body(255), api.ErrKind},
		{"no body 1", body(1), api.ErrTruncated},
		{"no body 2", body(2), api.ErrTruncated},
		{"no body 3", body(3), api.ErrTruncated},
		{"no body 4", body(4), api.ErrTruncated},
		{"no body 5", body(5), api.ErrTruncated},
		{"a short sequence number with a flag", body(2, 0, 0, 8), api.ErrTruncated},
		{"flag 8 and no number", body(2, 0, 0, 0, 0, 8), api.ErrSyntax},
		{"all flags and no number", body(2, 0, 0, 0, 0, 7), api.ErrTruncated},
		{"flag 128 and a header missing", body(2, 0, 0, 0, 0, 128, 1), api.ErrSyntax},
		{"a header missing", body(5, 1), api.ErrTruncated},
		{"a header of 17 bytes", body(5, append([]byte{1}, whole[:17]...)...), api.ErrTruncated},
		{"a header of zeros and one missing", body(5, append([]byte{2}, make([]byte, 18)...)...), api.ErrKind},
		{"a header without router and one missing", body(5, append([]byte{2}, wireHeaders([]api.LSAHeader{noRouter})[1:]...)...), api.ErrRange},
		{"a header and one missing", body(5, append([]byte{2}, whole...)...), api.ErrTruncated},
		{"a header and a byte more", body(5, append(append([]byte{1}, whole...), 0)...), api.ErrSyntax},
		{"a header and no router", body(5, append([]byte{1}, whole...)...), api.ErrRange},
		{"nothing and no router", body(5, 0), api.ErrRange},
		{"nothing, a byte more, and no router", body(5, 0, 0), api.ErrSyntax},
		{"a key of 9 bytes", body(3, append([]byte{1}, zero[:9]...)...), api.ErrTruncated},
		{"a key of zeros and no router", body(3, append([]byte{1}, zero[:10]...)...), api.ErrRange},
		{"a key of zeros and a byte more", body(3, append([]byte{1}, zero[:11]...)...), api.ErrSyntax},
		{"an update with 19 bytes", body(4, append([]byte{1}, zero[:19]...)...), api.ErrTruncated},
		{"an update with 20 bytes", body(4, append([]byte{1}, make([]byte, 20)...)...), api.ErrKind},
		{"a hello with 14 bytes", body(1, zero[:14]...), api.ErrTruncated},
		{"a hello of zeros", body(1, zero[:15]...), api.ErrRange},
		{"a hello of zeros and a byte more", body(1, zero[:16]...), api.ErrSyntax},
		{"a hello with a short router", body(1, append(append(slices.Clone(zero[:14]), 1), 0, 0, 0)...), api.ErrTruncated},
	} {
		if e := checkDecode(t, x.b); e != x.e {
			t.Errorf("%s: %v, not %v", x.name, e, x.e)
		}
	}
}

// P24.3: damaged packets, as they are, or with the right length and checksum.
func TestDecodeDamaged(t *testing.T) {
	r := rand.New(rand.NewPCG(24, 4))
	found := map[api.Errno]int{}
	for range 20000 {
		p := anyPacket(r)
		if r.IntN(2) == 0 {
			p = damaged(r, p)
		}
		b := wire(p)
		for range r.IntN(3) {
			b[r.IntN(min(len(b), 60))] = pick(r, 0, 1, 8, byte(r.IntN(256)))
		}
		switch r.IntN(5) {
		case 0:
			b = b[:r.IntN(len(b))]
		case 1:
			b = append(b, make([]byte, 1+r.IntN(20))...)
		case 2:
			b = b[:max(19, len(b)-r.IntN(20))]
		}
		if len(b) > 17 && r.IntN(4) > 0 {
			b = resized(b)
		}
		found[checkDecode(t, b)]++
	}
	for _, e := range []api.Errno{api.OK, api.ErrTruncated, api.ErrVersion, api.ErrSyntax, api.ErrChecksum, api.ErrKind, api.ErrRange, api.ErrTooLong, api.ErrOrder, api.ErrMismatch, api.ErrInvalid} {
		if found[e] < 20 {
			t.Errorf("only %d packets with %v", found[e], e)
		}
	}
}

// P24.6: one byte is replaced, or bytes at the end are missing.
func TestDamage(t *testing.T) {
	r := rand.New(rand.NewPCG(24, 6))
	for kind := 1; kind <= 5; kind++ {
		for range 3 {
			p := anyPacket(r)
			for p.Kind != kind || len(wire(p)) > 120 {
				p = anyPacket(r)
			}
			b := wire(p)
			for i := range b {
				for c := range 256 {
					damaged := slices.Clone(b)
					damaged[i] = byte(c)
					if q, e := lspacket.Decode(damaged); damaged[i] != b[i] && (e == api.OK || !equal(q, api.LSPacket{})) {
						t.Fatalf("%v with %d at %d: %v, %v", b, c, i, q, e)
					}
				}
				if q, e := lspacket.Decode(b[:i]); e != api.ErrTruncated || !equal(q, api.LSPacket{}) {
					t.Fatalf("%d bytes of %v: %v, %v", i, b, q, e)
				}
			}
		}
	}
}

// P24.3: lists of all lengths are read before they are checked.
func TestDecodeLong(t *testing.T) {
	for n := 60; n < 256; n++ {
		want := api.OK
		if n > 64 {
			want = api.ErrTooLong
		}
		for kind := 1; kind <= 5; kind++ {
			p := plain(kind)
			switch kind {
			case 1:
				p.Hello.Seen = listed(n, func(i uint32) uint32 { return i })
			case 2, 5:
				p.Headers = listed(n, header)
			case 3:
				p.Keys = listed(n, key)
			case 4:
				p.LSAs = listed(n, network)
			}
			if e := checkDecode(t, wire(p)); e != want {
				t.Errorf("kind %d with %d elements: %v", kind, n, e)
			}
		}
	}
}

// P24.3: any bytes with the right length and checksum.
func TestDecodeAny(t *testing.T) {
	r := rand.New(rand.NewPCG(24, 7))
	for range 20000 {
		b := make([]byte, 18+r.IntN(60))
		for i := range b {
			b[i] = pick(r, 0, 0, 1, 2, byte(r.IntN(256)))
		}
		b[0], b[1] = 1, byte(r.IntN(7))
		checkDecode(t, resized(b))
		checkDecode(t, b)
	}
}
