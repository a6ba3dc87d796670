package lspacket_test

import (
	"bytes"
	"encoding/binary"
	"reflect"
	"slices"

	"routing/api"
	"routing/lsa"
)

const (
	maxList = 64
	maxSeq  = 1<<31 - 1
)

// wire is the encoding of a packet. Elements without an encoding of their own are left out, but counted.
func wire(p api.LSPacket) []byte { return framed(p, wireBody(p)) }

// framed puts a body behind the header of a packet.
func framed(p api.LSPacket, body []byte) []byte {
	big := binary.BigEndian
	b := []byte{1, byte(p.Kind)}
	b = big.AppendUint16(b, uint16(18+len(body)))
	b = big.AppendUint32(b, p.Router)
	b = big.AppendUint32(b, p.Area)
	b = big.AppendUint32(b, uint32(p.Addr))
	b = append(b, 0, 0)
	b = append(b, body...)
	big.PutUint16(b[16:], internet(b))
	return b
}

// internet is the Internet checksum of a packet, which is never all zeros.
func internet(b []byte) uint16 {
	sum := 0
	for i, c := range b {
		if i%2 == 0 {
			sum += 256 * int(c)
		} else {
			sum += int(c)
		}
	}
	for sum > 65535 {
		sum = sum%65536 + sum/65536
	}
	return uint16(65535 - sum)
}

func wireBody(p api.LSPacket) []byte {
	big := binary.BigEndian
	switch p.Kind {
	case 1:
		h := p.Hello
		b := []byte{byte(h.Len)}
		b = big.AppendUint16(b, uint16(h.Hello))
		b = big.AppendUint16(b, uint16(h.Dead))
		b = append(b, byte(h.Priority))
		b = big.AppendUint32(b, h.DR)
		b = big.AppendUint32(b, h.BDR)
		b = append(b, byte(len(h.Seen)))
		for _, r := range h.Seen {
			b = big.AppendUint32(b, r)
		}
		return b
	case 2:
		flags := byte(0)
		for i, set := range []bool{p.Init, p.More, p.Master} {
			if set {
				flags |= 1 << i
			}
		}
		return append(append(big.AppendUint32(nil, uint32(p.Seq)), flags), wireHeaders(p.Headers)...)
	case 3:
		b := []byte{byte(len(p.Keys))}
		for _, k := range p.Keys {
			b = big.AppendUint32(append(b, byte(k.Type)), k.ID)
			b = big.AppendUint32(append(b, byte(k.Len)), k.Router)
		}
		return b
	case 4:
		b := []byte{byte(len(p.LSAs))}
		for _, l := range p.LSAs {
			e, _ := lsa.Encode(l)
			b = append(b, e...)
		}
		return b
	}
	return wireHeaders(p.Headers)
}

// wireHeaders is the encoding of a list of any headers.
func wireHeaders(l []api.LSAHeader) []byte {
	big := binary.BigEndian
	b := []byte{byte(len(l))}
	for _, h := range l {
		b = big.AppendUint16(b, uint16(h.Age))
		b = append(b, byte(h.Type), byte(h.Len))
		b = big.AppendUint32(b, h.ID)
		b = big.AppendUint32(b, h.Router)
		b = big.AppendUint32(b, uint32(h.Seq))
		b = big.AppendUint16(b, uint16(h.Sum))
	}
	return b
}

// rule is an error and whether it applies.
type rule struct {
	e     api.Errno
	wrong bool
}

// first returns the error of the first rule that applies.
func first(rules ...rule) api.Errno {
	for _, r := range rules {
		if r.wrong {
			return r.e
		}
	}
	return api.OK
}

func out(x, low, high int) bool { return x < low || x > high }

// foreign reports whether a field that does not belong to the kind of p is set.
func foreign(p api.LSPacket) bool {
	h := p.Hello
	set := map[string]bool{
		"hello":   h.Len != 0 || h.Hello != 0 || h.Dead != 0 || h.Priority != 0 || h.DR != 0 || h.BDR != 0 || len(h.Seen) > 0,
		"session": p.Seq != 0 || p.Init || p.More || p.Master,
		"headers": len(p.Headers) > 0,
		"keys":    len(p.Keys) > 0,
		"lsas":    len(p.LSAs) > 0,
	}
	for _, own := range [][]string{{}, {"hello"}, {"session", "headers"}, {"keys"}, {"lsas"}, {"headers"}}[p.Kind] {
		delete(set, own)
	}
	for _, is := range set {
		if is {
			return true
		}
	}
	return false
}

// checkError is the promise of Check.
func checkError(p api.LSPacket) api.Errno {
	if e := first(rule{api.ErrKind, out(p.Kind, 1, 5)}, rule{api.ErrRange, p.Router == 0}); e != api.OK {
		return e
	}
	if foreign(p) {
		return api.ErrInvalid
	}
	switch p.Kind {
	case 1:
		h := p.Hello
		sorted := slices.Compact(slices.Sorted(slices.Values(h.Seen)))
		return first(
			rule{api.ErrRange, out(h.Len, 0, 32) || out(h.Hello, 1, 65535) || out(h.Dead, 1, 65535) || out(h.Priority, 0, 255)},
			rule{api.ErrTooLong, len(h.Seen) > maxList},
			rule{api.ErrOrder, !slices.Equal(sorted, h.Seen) || slices.Contains(h.Seen, 0)},
		)
	case 2:
		if out(p.Seq, 0, maxSeq) {
			return api.ErrRange
		}
	case 3:
		return keysError(p.Keys)
	case 4:
		return lsasError(p.LSAs)
	}
	return headersError(p.Headers)
}

func keysError(l []api.LSAKey) api.Errno {
	if len(l) > maxList {
		return api.ErrTooLong
	}
	for i, k := range l {
		e := first(
			rule{api.ErrKind, out(k.Type, 1, 5)},
			rule{api.ErrRange, k.Router == 0 || out(k.Len, 0, 32)},
			rule{api.ErrOrder, i > 0 && !before(l[i-1], k)},
		)
		if e != api.OK {
			return e
		}
	}
	return api.OK
}

func lsasError(l []api.LSA) api.Errno {
	if len(l) > maxList {
		return api.ErrTooLong
	}
	for i, x := range l {
		if e := lsa.Check(x); e != api.OK {
			return e
		}
		s, _ := lsa.Seal(x)
		e := first(
			rule{api.ErrChecksum, s.Header.Sum != x.Header.Sum},
			rule{api.ErrOrder, i > 0 && !before(keyOf(l[i-1].Header), keyOf(x.Header))},
		)
		if e != api.OK {
			return e
		}
	}
	return api.OK
}

func headersError(l []api.LSAHeader) api.Errno {
	if len(l) > maxList {
		return api.ErrTooLong
	}
	for i, h := range l {
		if _, e := lsa.EncodeHeader(h); e != api.OK {
			return e
		}
		if i > 0 && !before(keyOf(l[i-1]), keyOf(h)) {
			return api.ErrOrder
		}
	}
	return api.OK
}

func keyOf(h api.LSAHeader) api.LSAKey {
	return api.LSAKey{Type: h.Type, ID: h.ID, Len: h.Len, Router: h.Router}
}

// before reports whether a is less than b.
func before(a, b api.LSAKey) bool {
	return slices.Compare([]int{a.Type, int(a.ID), a.Len, int(a.Router)}, []int{b.Type, int(b.ID), b.Len, int(b.Router)}) < 0
}

// equal is the promise of Same: after empty lists are replaced by nil, everything is equal.
func equal(a, b api.LSPacket) bool { return reflect.DeepEqual(bare(a), bare(b)) }

func bare(p api.LSPacket) api.LSPacket {
	p.Hello.Seen, p.Headers, p.Keys = orNil(p.Hello.Seen), orNil(p.Headers), orNil(p.Keys)
	p.LSAs = orNil(slices.Clone(p.LSAs))
	for i, l := range p.LSAs {
		p.LSAs[i].Links, p.LSAs[i].Attached = orNil(l.Links), orNil(l.Attached)
	}
	return p
}

func orNil[T any](l []T) []T {
	if len(l) == 0 {
		return nil
	}
	return l
}

// decodeError is the promise of Decode, except that a packet with no error is not returned.
func decodeError(b []byte) api.Errno {
	if len(b) < 18 {
		return api.ErrTruncated
	}
	size := int(b[2])*256 + int(b[3])
	blank := slices.Concat(b[:16], []byte{0, 0}, b[18:])
	e := first(
		rule{api.ErrVersion, b[0] != 1},
		rule{api.ErrTruncated, size > len(b)},
		rule{api.ErrSyntax, size < len(b)},
		rule{api.ErrChecksum, binary.BigEndian.Uint16(b[16:]) != internet(blank)},
		rule{api.ErrKind, out(int(b[1]), 1, 5)},
	)
	if e != api.OK {
		return e
	}
	p := parseHeader(b)
	rest, e := parseBody(&p, b[18:])
	if e != api.OK {
		return e
	}
	if len(rest) > 0 {
		return api.ErrSyntax
	}
	return checkError(p)
}

func parseHeader(b []byte) api.LSPacket {
	big := binary.BigEndian
	return api.LSPacket{Kind: int(b[1]), Router: big.Uint32(b[4:]), Area: big.Uint32(b[8:]), Addr: api.Addr(big.Uint32(b[12:]))}
}

// parseBody sets the fields of a packet from b; it returns what is left over.
func parseBody(p *api.LSPacket, b []byte) ([]byte, api.Errno) {
	big := binary.BigEndian
	switch p.Kind {
	case 1:
		if len(b) < 15 {
			return nil, api.ErrTruncated
		}
		p.Hello = api.Hello{Len: int(b[0]), Hello: int(big.Uint16(b[1:])), Dead: int(big.Uint16(b[3:])), Priority: int(b[5]), DR: big.Uint32(b[6:]), BDR: big.Uint32(b[10:])}
		return elements(b[14:], &p.Hello.Seen, fixed(4, big.Uint32))
	case 2:
		if len(b) < 5 {
			return nil, api.ErrTruncated
		}
		p.Seq = int(big.Uint32(b))
		if b[4] > 7 {
			return nil, api.ErrSyntax
		}
		p.Init, p.More, p.Master = b[4]&1 > 0, b[4]&2 > 0, b[4]&4 > 0
		return elements(b[5:], &p.Headers, headerOf)
	case 3:
		return elements(b, &p.Keys, fixed(10, func(b []byte) api.LSAKey {
			return api.LSAKey{Type: int(b[0]), ID: big.Uint32(b[1:]), Len: int(b[5]), Router: big.Uint32(b[6:])}
		}))
	case 4:
		return elements(b, &p.LSAs, lsa.Decode)
	}
	return elements(b, &p.Headers, headerOf)
}

func headerOf(b []byte) (api.LSAHeader, int, api.Errno) {
	h, e := lsa.DecodeHeader(b)
	return h, 18, e
}

// fixed reads an element of n bytes.
func fixed[T any](n int, one func([]byte) T) func([]byte) (T, int, api.Errno) {
	return func(b []byte) (T, int, api.Errno) {
		if len(b) < n {
			return *new(T), 0, api.ErrTruncated
		}
		return one(b[:n]), n, api.OK
	}
}

// elements reads a number and as many elements; it returns what is left over.
func elements[T any](b []byte, l *[]T, one func([]byte) (T, int, api.Errno)) ([]byte, api.Errno) {
	if len(b) == 0 {
		return nil, api.ErrTruncated
	}
	n, b := int(b[0]), bytes.Clone(b[1:])
	for range n {
		x, size, e := one(b)
		if e != api.OK {
			return nil, e
		}
		*l, b = append(*l, x), b[size:]
	}
	return b, api.OK
}
