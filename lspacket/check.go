package lspacket

import (
	"routing/api"
	"routing/lsa"
)

// Check reports whether p is valid.
func Check(p api.LSPacket) api.Errno {
	if p.Kind < api.PktHello || p.Kind > api.PktAck {
		return api.ErrKind
	}
	if p.Router == 0 {
		return api.ErrRange
	}
	if !Same(p, ownFields(p)) {
		return api.ErrInvalid
	}
	switch p.Kind {
	case api.PktHello:
		return checkHello(p.Hello)
	case api.PktDatabase:
		if p.Seq < 0 || p.Seq > api.MaxSeq {
			return api.ErrRange
		}
		return checkList(p.Headers, checkHeader, lsa.Key)
	case api.PktRequest:
		return checkList(p.Keys, checkKey, func(k api.LSAKey) api.LSAKey { return k })
	case api.PktUpdate:
		return checkList(p.LSAs, checkLSA, func(l api.LSA) api.LSAKey { return lsa.Key(l.Header) })
	}
	return checkList(p.Headers, checkHeader, lsa.Key)
}

// ownFields returns p with nothing in the fields that do not belong to its kind.
func ownFields(p api.LSPacket) api.LSPacket {
	own := api.LSPacket{Kind: p.Kind, Router: p.Router, Area: p.Area, Addr: p.Addr}
	switch p.Kind {
	case api.PktHello:
		own.Hello = p.Hello
	case api.PktDatabase:
		own.Seq, own.Init, own.More, own.Master, own.Headers = p.Seq, p.Init, p.More, p.Master, p.Headers
	case api.PktRequest:
		own.Keys = p.Keys
	case api.PktUpdate:
		own.LSAs = p.LSAs
	case api.PktAck:
		own.Headers = p.Headers
	}
	return own
}

func checkHello(h api.Hello) api.Errno {
	if h.Len < 0 || h.Len > 32 || h.Hello < 1 || h.Hello > 65535 || h.Dead < 1 || h.Dead > 65535 || h.Priority < 0 || h.Priority > 255 {
		return api.ErrRange
	}
	if len(h.Seen) > api.MaxList {
		return api.ErrTooLong
	}
	last := uint32(0)
	for _, r := range h.Seen {
		if r <= last {
			return api.ErrOrder
		}
		last = r
	}
	return api.OK
}

// checkList checks a list of elements that are ascending by key.
func checkList[T any](l []T, check func(T) api.Errno, key func(T) api.LSAKey) api.Errno {
	if len(l) > api.MaxList {
		return api.ErrTooLong
	}
	for i, x := range l {
		if e := check(x); e != api.OK {
			return e
		}
		if i > 0 && lsa.CompareKeys(key(l[i-1]), key(x)) >= 0 {
			return api.ErrOrder
		}
	}
	return api.OK
}

func checkHeader(h api.LSAHeader) api.Errno {
	_, e := lsa.EncodeHeader(h)
	return e
}

func checkKey(k api.LSAKey) api.Errno {
	if k.Type < api.LSARouter || k.Type > api.LSAExternal {
		return api.ErrKind
	}
	if k.Router == 0 || k.Len < 0 || k.Len > 32 {
		return api.ErrRange
	}
	return api.OK
}

// checkLSA returns the first error of an advertisement, which has to be sealed.
func checkLSA(l api.LSA) api.Errno {
	_, e := lsa.Encode(l)
	return e
}
