package hello

import (
	"slices"

	"routing/api"
	"routing/prefix"
)

// Receive processes a hello packet.
func Receive(s api.IfState, router uint32, p api.LSPacket, now int) (api.IfState, api.Errno) {
	if e := refusal(s, router, p); e != api.OK {
		return api.IfState{}, e
	}
	n, known := Find(s, p.Router)
	if !known {
		n = api.Neighbor{Router: p.Router, State: api.NbrInit}
	}
	n.Addr, n.Priority, n.DR, n.BDR = p.Addr, p.Hello.Priority, p.Hello.DR, p.Hello.BDR
	n.Until = now + s.Conf.Dead
	return With(s, heard(n, slices.Contains(p.Hello.Seen, router))), api.OK
}

// refusal returns the first reason for which p is not processed.
func refusal(s api.IfState, router uint32, p api.LSPacket) api.Errno {
	c, h := s.Conf, p.Hello
	switch {
	case !s.Up || c.Kind == api.IfStub:
		return api.ErrState
	case p.Kind != api.PktHello:
		return api.ErrKind
	case p.Area != c.Area || h.Len != c.Prefix.Len || h.Hello != c.Hello || h.Dead != c.Dead || !prefix.Contains(c.Prefix, p.Addr):
		return api.ErrMismatch
	case p.Router == 0 || p.Router == router || p.Addr == c.Addr:
		return api.ErrInvalid
	}
	return refusalOf(s, p.Router)
}

// refusalOf returns the first reason for which a router cannot be a neighbor beside those that are there.
func refusalOf(s api.IfState, router uint32) api.Errno {
	switch s.Conf.Kind {
	case api.IfPoint:
		if slices.ContainsFunc(s.Neighbors, func(n api.Neighbor) bool { return n.Router != router }) {
			return api.ErrExists
		}
		fallthrough
	default:
		// A network advertisement has to hold this router as well.
		if len(s.Neighbors) >= api.MaxList-1 && position(s, router) < 0 {
			return api.ErrFull
		}
	}
	return api.OK
}

// heard returns n after a hello of it, which lists this router or does not.
func heard(n api.Neighbor, listed bool) api.Neighbor {
	if !listed {
		// Nothing is left of an exchange.
		return api.Neighbor{Router: n.Router, Addr: n.Addr, Priority: n.Priority, DR: n.DR, BDR: n.BDR, State: api.NbrInit, Until: n.Until}
	}
	if n.State == api.NbrInit {
		n.State = api.NbrTwoWay
	}
	return n
}
