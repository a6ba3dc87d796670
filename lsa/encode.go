package lsa

import (
	"slices"

	"routing/api"
	"routing/checksum"
	"routing/field"
)

const (
	ageSize    = 2
	headerSize = 18
	bodyAt     = headerSize + 2 // behind the length of the body
)

// Flags of a router and of an external advertisement.
const (
	flagBorder   = 1
	flagBoundary = 2
	flagSecond   = 1
)

// putter appends a number in n bytes.
type putter func(n int, x uint64)

// Seal sets the checksum.
func Seal(l api.LSA) (api.LSA, api.Errno) {
	if e := Check(l); e != api.OK {
		return api.LSA{}, e
	}
	l.Header.Sum = sum(encoding(l))
	l.Links, l.Attached = slices.Clone(l.Links), slices.Clone(l.Attached)
	return l, api.OK
}

// Encode returns the bytes of l.
func Encode(l api.LSA) ([]byte, api.Errno) {
	if e := Check(l); e != api.OK {
		return nil, e
	}
	b := encoding(l)
	if sum(b) != l.Header.Sum {
		return nil, api.ErrChecksum
	}
	return b, api.OK
}

// EncodeHeader returns the bytes of a header.
func EncodeHeader(h api.LSAHeader) ([]byte, api.Errno) {
	if e := checkHeader(h); e != api.OK {
		return nil, e
	}
	return written(func(put putter) { putHeader(put, h) }), api.OK
}

// sum returns the checksum that seals the advertisement with the encoding b. It does not cover the age, which changes
// on the way.
func sum(b []byte) int {
	s, _ := checksum.Fletcher(b[ageSize:], headerSize-2-ageSize)
	return s
}

// encoding returns the encoding of a valid advertisement.
func encoding(l api.LSA) []byte {
	body := written(func(put putter) { putBody(put, l) })
	head := written(func(put putter) {
		putHeader(put, l.Header)
		put(2, uint64(len(body)))
	})
	return append(head, body...)
}

// written returns the bytes of the numbers that fill appends.
func written(fill func(putter)) []byte {
	var b []byte
	fill(func(n int, x uint64) { b = append(b, field.Put(nil, n, x)...) })
	return b
}

func putHeader(put putter, h api.LSAHeader) {
	put(2, uint64(h.Age))
	put(1, uint64(h.Type))
	put(1, uint64(h.Len))
	put(4, uint64(h.ID))
	put(4, uint64(h.Router))
	put(4, uint64(h.Seq))
	put(2, uint64(h.Sum))
}

func putBody(put putter, l api.LSA) {
	switch l.Header.Type {
	case api.LSARouter:
		putRouter(put, l)
	case api.LSANetwork:
		putNetwork(put, l)
	case api.LSASummary, api.LSABoundary:
		put(4, uint64(l.Cost))
	case api.LSAExternal:
		putExternal(put, l)
	}
}

func putRouter(put putter, l api.LSA) {
	put(1, flag(l.Border, flagBorder)|flag(l.Boundary, flagBoundary))
	put(1, uint64(len(l.Links)))
	for _, k := range l.Links {
		put(1, uint64(k.Kind))
		put(4, uint64(k.ID))
		put(4, uint64(k.Data))
		put(2, uint64(k.Cost))
	}
}

func putNetwork(put putter, l api.LSA) {
	put(1, uint64(len(l.Attached)))
	for _, r := range l.Attached {
		put(4, uint64(r))
	}
}

func putExternal(put putter, l api.LSA) {
	put(1, flag(l.Second, flagSecond))
	put(4, uint64(l.Cost))
	put(4, uint64(l.Forward))
	put(4, uint64(l.Tag))
}

// flag returns the value of a flag that is set, and otherwise 0.
func flag(set bool, value uint64) uint64 {
	if set {
		return value
	}
	return 0
}
