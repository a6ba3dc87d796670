package hello_test

import (
	"reflect"
	"slices"

	"routing/api"
)

const maxList = 64

// rule is an error and whether it applies.
type rule struct {
	e     api.Errno
	wrong bool
}

// first returns the error of the first rule that applies.
func first(rules ...rule) api.Errno {
	for _, r := range rules {
		if r.wrong {
			return r.e
		}
	}
	return api.OK
}

func out(x, low, high int) bool { return x < low || x > high }

// valid is the definition of a valid prefix.
func valid(p api.Prefix) bool {
	return !out(p.Len, 0, 32) && uint64(p.Addr)%(1<<(32-p.Len)) == 0
}

// lies reports whether a is an address of p.
func lies(p api.Prefix, a api.Addr) bool {
	return valid(p) && uint64(a) >= uint64(p.Addr) && uint64(a) < uint64(p.Addr)+1<<(32-p.Len)
}

// checkError is the promise of Check.
func checkError(i api.Iface) api.Errno {
	return first(
		rule{api.ErrKind, out(i.Kind, 1, 3)},
		rule{api.ErrInvalid, !valid(i.Prefix) || i.Addr == 0 || !lies(i.Prefix, i.Addr)},
		rule{api.ErrRange, out(i.Cost, 1, 65535) || out(i.Priority, 0, 255) || out(i.Hello, 1, 65535) || out(i.Dead, i.Hello, 65535)},
	)
}

// receiveError is the error that Receive promises.
func receiveError(s api.IfState, router uint32, p api.LSPacket) api.Errno {
	c, others := s.Conf, 0
	for _, n := range s.Neighbors {
		if n.Router != p.Router {
			others++
		}
	}
	return first(
		rule{api.ErrState, !s.Up || c.Kind == 3},
		rule{api.ErrKind, p.Kind != 1},
		rule{api.ErrMismatch, p.Area != c.Area || p.Hello.Len != c.Prefix.Len || p.Hello.Hello != c.Hello || p.Hello.Dead != c.Dead},
		rule{api.ErrMismatch, !lies(c.Prefix, p.Addr)},
		rule{api.ErrInvalid, p.Router == 0 || p.Router == router || p.Addr == c.Addr},
		rule{api.ErrExists, c.Kind == 1 && others > 0},
		rule{api.ErrFull, others == maxList-1 && len(s.Neighbors) == others},
	)
}

// received is the state that Receive promises: the neighbors are kept by their routers.
func received(s api.IfState, router uint32, p api.LSPacket, now int) api.IfState {
	known := map[uint32]api.Neighbor{}
	for _, n := range s.Neighbors {
		known[n.Router] = n
	}
	n, is := known[p.Router]
	if !is {
		n.Router, n.State = p.Router, 1
	}
	n.Addr, n.Priority, n.DR, n.BDR, n.Until = p.Addr, p.Hello.Priority, p.Hello.DR, p.Hello.BDR, now+s.Conf.Dead
	if !slices.Contains(p.Hello.Seen, router) {
		n.State = 1
		n.Master, n.Seq, n.List, n.Sent, n.More, n.Requests, n.Unacked, n.Resend = false, 0, nil, nil, false, nil, nil, 0
	} else if n.State == 1 {
		n.State = 2
	}
	known[p.Router] = n
	s.Neighbors = nil
	for _, n := range known {
		s.Neighbors = append(s.Neighbors, n)
	}
	slices.SortFunc(s.Neighbors, func(a, b api.Neighbor) int { return slices.Compare([]uint32{a.Router}, []uint32{b.Router}) })
	return s
}

// placed is the state that With promises, for any state.
func placed(s api.IfState, n api.Neighbor) api.IfState {
	var l []api.Neighbor
	done, known := false, false
	for _, m := range s.Neighbors {
		known = known || m.Router == n.Router
	}
	for _, m := range s.Neighbors {
		if !known && !done && m.Router > n.Router {
			l, done = append(l, n), true
		}
		if !done && m.Router == n.Router {
			m, done = n, true
		}
		l = append(l, m)
	}
	if !done {
		l = append(l, n)
	}
	s.Neighbors = l
	return s
}

// equal reports whether two states are equal, whether their empty lists are nil or not.
func equal(a, b api.IfState) bool { return reflect.DeepEqual(bare(a), bare(b)) }

func bare(s api.IfState) api.IfState {
	var l []api.Neighbor
	for _, n := range s.Neighbors {
		l = append(l, bareOne(n))
	}
	s.Neighbors = l
	return s
}

func bareOne(n api.Neighbor) api.Neighbor {
	n.List, n.Sent, n.Requests, n.Unacked = orNil(n.List), orNil(n.Sent), orNil(n.Requests), orNil(n.Unacked)
	return n
}

func orNil[T any](l []T) []T {
	if len(l) == 0 {
		return nil
	}
	return l
}
