package lspacket

import (
	"routing/api"
	"routing/checksum"
	"routing/field"
	"routing/lsa"
)

// Decode decodes a packet.
func Decode(b []byte) (api.LSPacket, api.Errno) {
	if e := checkBytes(b); e != api.OK {
		return api.LSPacket{}, e
	}
	r := reader{b: b}
	p := r.header()
	if p.Kind < api.PktHello || p.Kind > api.PktAck {
		return api.LSPacket{}, api.ErrKind
	}
	r.body(&p)
	if r.at < len(b) {
		r.fail(api.ErrSyntax)
	}
	if r.e == api.OK {
		r.e = Check(p)
	}
	if r.e != api.OK {
		return api.LSPacket{}, r.e
	}
	return p, api.OK
}

// checkBytes checks version, length and checksum of a packet.
func checkBytes(b []byte) api.Errno {
	if len(b) < headerSize {
		return api.ErrTruncated
	}
	if b[0] != version {
		return api.ErrVersion
	}
	size, _ := field.Get(b, lengthAt, 2)
	if int(size) > len(b) {
		return api.ErrTruncated
	}
	if int(size) < len(b) {
		return api.ErrSyntax
	}
	sum, _ := field.Get(b, sumAt, 2)
	blank := append(field.Put(b[:sumAt], 2, 0), b[headerSize:]...)
	if int(sum) != checksum.Internet(blank) {
		return api.ErrChecksum
	}
	return api.OK
}

// reader reads a packet from its front. It keeps the first error; behind that it reads nothing.
type reader struct {
	b  []byte
	at int
	e  api.Errno
}

// fail notes an error if it is the first one.
func (r *reader) fail(e api.Errno) {
	if r.e == api.OK {
		r.e = e
	}
}

// number reads a number of n bytes.
func (r *reader) number(n int) uint64 {
	x, ok := field.Get(r.b, r.at, n)
	if !ok {
		r.fail(api.ErrTruncated)
	}
	if r.e != api.OK {
		return 0
	}
	r.at += n
	return x
}

// flags reads a byte with flags; defined has all that may be set.
func (r *reader) flags(defined uint64) uint64 {
	x := r.number(1)
	if x&^defined != 0 {
		r.fail(api.ErrSyntax)
	}
	return x
}

// list reads the number of elements and the elements, each of them by one.
func list[T any](r *reader, one func() T) []T {
	var l []T
	for range r.number(1) {
		x := one()
		if r.e != api.OK {
			return nil
		}
		l = append(l, x)
	}
	return l
}

// header reads what stands before the body.
func (r *reader) header() api.LSPacket {
	r.number(1) // the version
	kind := r.number(1)
	r.number(2) // the length
	p := api.LSPacket{Kind: int(kind), Router: uint32(r.number(4)), Area: uint32(r.number(4)), Addr: api.Addr(r.number(4))}
	r.number(2) // the checksum
	return p
}

// body reads the fields of the kind of p.
func (r *reader) body(p *api.LSPacket) {
	switch p.Kind {
	case api.PktHello:
		p.Hello = r.hello()
	case api.PktDatabase:
		p.Seq = int(r.number(4))
		flags := r.flags(flagInit | flagMore | flagMaster)
		p.Init, p.More, p.Master = flags&flagInit != 0, flags&flagMore != 0, flags&flagMaster != 0
		p.Headers = r.headers()
	case api.PktRequest:
		p.Keys = r.keys()
	case api.PktUpdate:
		p.LSAs = r.updates()
	case api.PktAck:
		p.Headers = r.headers()
	}
}

func (r *reader) hello() api.Hello {
	return api.Hello{
		Len:      int(r.number(1)),
		Hello:    int(r.number(2)),
		Dead:     int(r.number(2)),
		Priority: int(r.number(1)),
		DR:       uint32(r.number(4)),
		BDR:      uint32(r.number(4)),
		Seen:     list(r, func() uint32 { return uint32(r.number(4)) }),
	}
}

func (r *reader) headers() []api.LSAHeader {
	return list(r, func() api.LSAHeader {
		h, e := lsa.DecodeHeader(r.b[r.at:])
		r.fail(e)
		r.at += lsaHeaderSize
		return h
	})
}

func (r *reader) keys() []api.LSAKey {
	return list(r, func() api.LSAKey {
		return api.LSAKey{
			Type:   int(r.number(1)),
			ID:     uint32(r.number(4)),
			Len:    int(r.number(1)),
			Router: uint32(r.number(4)),
		}
	})
}

func (r *reader) updates() []api.LSA {
	return list(r, func() api.LSA {
		l, n, e := lsa.Decode(r.b[r.at:])
		r.fail(e)
		r.at += n
		return l
	})
}
