package lspacket

import (
	"routing/api"
	"routing/checksum"
	"routing/field"
	"routing/lsa"
)

const (
	version    = 1
	headerSize = 18
	lengthAt   = 2 // the place of the length in the header
	sumAt      = 16

	lsaHeaderSize = 18
)

// Flags of a database packet.
const (
	flagInit   = 1
	flagMore   = 2
	flagMaster = 4
)

// Encode returns the bytes of p.
func Encode(p api.LSPacket) ([]byte, api.Errno) {
	if e := Check(p); e != api.OK {
		return nil, e
	}
	body := encodeBody(p)
	size := headerSize + len(body)
	sum := checksum.Internet(append(encodeHeader(p, size, 0), body...))
	return append(encodeHeader(p, size, sum), body...), api.OK
}

// writer collects bytes.
type writer struct {
	b []byte
}

// number appends a number in n bytes.
func (w *writer) number(n int, x uint64) {
	w.b = append(w.b, field.Put(nil, n, x)...)
}

// flag returns the value of a flag that is set, and otherwise 0.
func flag(set bool, value uint64) uint64 {
	if set {
		return value
	}
	return 0
}

// encodeHeader returns the part before the body of a packet that has size bytes.
func encodeHeader(p api.LSPacket, size, sum int) []byte {
	var w writer
	w.number(1, version)
	w.number(1, uint64(p.Kind))
	w.number(2, uint64(size))
	w.number(4, uint64(p.Router))
	w.number(4, uint64(p.Area))
	w.number(4, uint64(p.Addr))
	w.number(2, uint64(sum))
	return w.b
}

// encodeBody returns the body of a valid packet.
func encodeBody(p api.LSPacket) []byte {
	var w writer
	switch p.Kind {
	case api.PktHello:
		w.hello(p.Hello)
	case api.PktDatabase:
		w.number(4, uint64(p.Seq))
		w.number(1, flag(p.Init, flagInit)|flag(p.More, flagMore)|flag(p.Master, flagMaster))
		w.headers(p.Headers)
	case api.PktRequest:
		w.keys(p.Keys)
	case api.PktUpdate:
		w.updates(p.LSAs)
	case api.PktAck:
		w.headers(p.Headers)
	}
	return w.b
}

func (w *writer) hello(h api.Hello) {
	w.number(1, uint64(h.Len))
	w.number(2, uint64(h.Hello))
	w.number(2, uint64(h.Dead))
	w.number(1, uint64(h.Priority))
	w.number(4, uint64(h.DR))
	w.number(4, uint64(h.BDR))
	w.number(1, uint64(len(h.Seen)))
	for _, r := range h.Seen {
		w.number(4, uint64(r))
	}
}

func (w *writer) headers(l []api.LSAHeader) {
	w.number(1, uint64(len(l)))
	for _, h := range l {
		b, _ := lsa.EncodeHeader(h)
		w.b = append(w.b, b...)
	}
}

func (w *writer) keys(l []api.LSAKey) {
	w.number(1, uint64(len(l)))
	for _, k := range l {
		w.number(1, uint64(k.Type))
		w.number(4, uint64(k.ID))
		w.number(1, uint64(k.Len))
		w.number(4, uint64(k.Router))
	}
}

func (w *writer) updates(l []api.LSA) {
	w.number(1, uint64(len(l)))
	for _, x := range l {
		b, _ := lsa.Encode(x)
		w.b = append(w.b, b...)
	}
}
