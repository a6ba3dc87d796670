package lsa

import (
	"routing/api"
	"routing/field"
)

// Decode decodes the advertisement at the beginning of b and returns its length.
func Decode(b []byte) (api.LSA, int, api.Errno) {
	if len(b) < bodyAt {
		return api.LSA{}, 0, api.ErrTruncated
	}
	l := api.LSA{Header: header(b)}
	if l.Header.Type < api.LSARouter || l.Header.Type > api.LSAExternal {
		return api.LSA{}, 0, api.ErrKind
	}
	size, _ := field.Get(b, headerSize, 2)
	end := bodyAt + int(size)
	if end > len(b) {
		return api.LSA{}, 0, api.ErrTruncated
	}
	if !readBody(b[bodyAt:end], &l) {
		return api.LSA{}, 0, api.ErrSyntax
	}
	if e := Check(l); e != api.OK {
		return api.LSA{}, 0, e
	}
	if sum(b[:end]) != l.Header.Sum {
		return api.LSA{}, 0, api.ErrChecksum
	}
	return l, end, api.OK
}

// DecodeHeader decodes a header at the beginning of b.
func DecodeHeader(b []byte) (api.LSAHeader, api.Errno) {
	if len(b) < headerSize {
		return api.LSAHeader{}, api.ErrTruncated
	}
	h := header(b)
	if e := checkHeader(h); e != api.OK {
		return api.LSAHeader{}, e
	}
	return h, api.OK
}

// reader reads a body from its front. It is bad once a number is missing or has no meaning.
type reader struct {
	b   []byte
	at  int
	bad bool
}

// number reads a number of n bytes.
func (r *reader) number(n int) uint64 {
	x, ok := field.Get(r.b, r.at, n)
	r.at += n
	r.bad = r.bad || !ok
	return x
}

// flags reads a byte with flags; defined has all that may be set.
func (r *reader) flags(defined uint64) uint64 {
	x := r.number(1)
	r.bad = r.bad || x&^defined != 0
	return x
}

// header reads the header with which b begins.
func header(b []byte) api.LSAHeader {
	r := reader{b: b}
	return api.LSAHeader{
		Age:    int(r.number(2)),
		Type:   int(r.number(1)),
		Len:    int(r.number(1)),
		ID:     uint32(r.number(4)),
		Router: uint32(r.number(4)),
		Seq:    int(r.number(4)),
		Sum:    int(r.number(2)),
	}
}

// readBody reads the fields of the type of l and reports whether b consists of them.
func readBody(b []byte, l *api.LSA) bool {
	r := reader{b: b}
	switch l.Header.Type {
	case api.LSARouter:
		readRouter(&r, l)
	case api.LSANetwork:
		readNetwork(&r, l)
	case api.LSASummary:
		fallthrough
	case api.LSABoundary:
		readCost(&r, l)
	case api.LSAExternal:
		readExternal(&r, l)
	}
	return !r.bad && r.at == len(b)
}

func readRouter(r *reader, l *api.LSA) {
	flags := r.flags(flagBorder | flagBoundary)
	l.Border, l.Boundary = flags&flagBorder != 0, flags&flagBoundary != 0
	for range r.number(1) {
		l.Links = append(l.Links, api.LSLink{
			Kind: int(r.number(1)),
			ID:   uint32(r.number(4)),
			Data: uint32(r.number(4)),
			Cost: int(r.number(2)),
		})
	}
}

func readNetwork(r *reader, l *api.LSA) {
	for range r.number(1) {
		l.Attached = append(l.Attached, uint32(r.number(4)))
	}
}

func readCost(r *reader, l *api.LSA) {
	l.Cost = int(r.number(4))
}

func readExternal(r *reader, l *api.LSA) {
	l.Second = r.flags(flagSecond) != 0
	readCost(r, l)
	l.Forward = api.Addr(r.number(4))
	l.Tag = int(r.number(4))
}
