package hello_test

import (
	"math"
	"math/rand/v2"
	"slices"

	"routing/api"
)

func pick[T any](r *rand.Rand, l ...T) T { return l[r.IntN(len(l))] }

var (
	wrong = []int{math.MinInt, -1 << 32, -1, 0, 1, 2, 3, 4, 10, 24, 32, 33, 40, 255, 256, 65535, 65536, 1 << 32, math.MaxInt}
	words = []uint32{0, 1, 2, 3, 4, 0x0a000000, 0x0a000001, 0x80000000, math.MaxUint32}
)

// plain returns the configuration of an interface of 10.0.0.0/24.
func plain(kind int) api.Iface {
	return api.Iface{Kind: kind, Prefix: api.Prefix{Addr: 0x0a000000, Len: 24}, Addr: 0x0a000001, Area: 5, Cost: 7, Priority: 1, Hello: 10, Dead: 40}
}

// up returns the state of an interface that is up.
func up(kind int, neighbors ...api.Neighbor) api.IfState {
	return api.IfState{Conf: plain(kind), Up: true, Neighbors: neighbors}
}

func anyHeaders(r *rand.Rand) []api.LSAHeader {
	var l []api.LSAHeader
	for i := range r.IntN(4) {
		l = append(l, api.LSAHeader{Type: 1, ID: uint32(i), Router: r.Uint32(), Seq: r.IntN(9)})
	}
	return l
}

// anyNeighbor returns a neighbor in some state, with something in all exchange fields.
func anyNeighbor(r *rand.Rand, router uint32) api.Neighbor {
	n := api.Neighbor{Router: router, Addr: api.Addr(r.Uint32()), Priority: r.IntN(256), DR: pick(r, words...), BDR: pick(r, words...), State: r.IntN(7), Until: pick(r, 0, 99, 100, 101, r.IntN(200))}
	if n.State >= 3 {
		n.Master, n.Seq, n.List, n.Sent, n.More = r.IntN(2) == 0, r.IntN(9), anyHeaders(r), anyHeaders(r), r.IntN(2) == 0
		n.Requests, n.Unacked, n.Resend = anyHeaders(r), anyHeaders(r), r.IntN(200)
	}
	return n
}

// anyNeighbors returns neighbors with up to n routers, ascending.
func anyNeighbors(r *rand.Rand, n int) []api.Neighbor {
	var routers []uint32
	for range n {
		routers = append(routers, pick(r, 2, 3, 4, 5, 6, 1+r.Uint32N(math.MaxUint32)))
	}
	slices.Sort(routers)
	var l []api.Neighbor
	for _, router := range slices.Compact(routers) {
		l = append(l, anyNeighbor(r, router))
	}
	return l
}

// anyState returns a state with ascending neighbors.
func anyState(r *rand.Rand) api.IfState {
	s := up(pick(r, 1, 2, 2), anyNeighbors(r, pick(r, 0, 1, 1, 2, 3, 5))...)
	s.DR, s.BDR, s.Elect, s.NextHello = pick(r, words...), pick(r, words...), r.IntN(200), r.IntN(200)
	s.Conf.Area, s.Conf.Priority, s.Conf.Dead = pick(r, words...), r.IntN(256), 10+r.IntN(50)
	return s
}

// oddState returns a state whose neighbors may be in any order, with routers that occur several times.
func oddState(r *rand.Rand) api.IfState {
	s := anyState(r)
	for range r.IntN(6) {
		s.Neighbors = slices.Insert(s.Neighbors, r.IntN(len(s.Neighbors)+1), anyNeighbor(r, pick(r, words...)))
	}
	for i := range s.Neighbors {
		if r.IntN(4) == 0 {
			s.Neighbors[i].State, s.Neighbors[i].Until = pick(r, wrong...), pick(r, wrong...)
		}
	}
	s.Up = r.IntN(4) > 0
	if r.IntN(4) == 0 {
		s.Conf = oddIface(r, s.Conf)
	}
	return s
}

// oddIface returns a configuration like i, of which one thing is another one.
func oddIface(r *rand.Rand, i api.Iface) api.Iface {
	switch r.IntN(9) {
	case 0:
		i.Kind = pick(r, wrong...)
	case 1:
		i.Prefix.Addr = api.Addr(pick(r, words...))
	case 2:
		i.Prefix.Len = pick(r, wrong...)
	case 3:
		i.Addr = api.Addr(pick(r, words...))
	case 4:
		i.Area = pick(r, words...)
	case 5:
		i.Cost = pick(r, wrong...)
	case 6:
		i.Priority = pick(r, wrong...)
	case 7:
		i.Hello = pick(r, wrong...)
	case 8:
		i.Dead = pick(r, wrong...)
	}
	return i
}

// anyHello returns a packet that an interface with the state s may receive.
func anyHello(r *rand.Rand, s api.IfState) api.LSPacket {
	c := s.Conf
	p := api.LSPacket{
		Kind: 1, Router: 2 + r.Uint32N(6), Area: c.Area, Addr: c.Prefix.Addr + 2 + api.Addr(r.Uint32N(200)),
		Hello: api.Hello{Len: c.Prefix.Len, Hello: c.Hello, Dead: c.Dead, Priority: r.IntN(256), DR: pick(r, words...), BDR: pick(r, words...)},
	}
	if len(s.Neighbors) > 0 && r.IntN(2) == 0 {
		p.Router = s.Neighbors[r.IntN(len(s.Neighbors))].Router
	}
	for _, router := range []uint32{1, 2, 3, 9} {
		if r.IntN(2) == 0 {
			p.Hello.Seen = append(p.Hello.Seen, router)
		}
	}
	return p
}

// oddHello returns a packet like p, of which one thing is another one.
func oddHello(r *rand.Rand, p api.LSPacket) api.LSPacket {
	switch r.IntN(7) {
	case 0:
		p.Kind = pick(r, wrong...)
	case 1:
		p.Router = pick(r, words...)
	case 2:
		p.Area = pick(r, words...)
	case 3:
		p.Addr = pick(r, 0x0a000001, 0x0a0000ff, 0x0a000100, 0x09ffffff, api.Addr(r.Uint32()))
	case 4:
		p.Hello.Len = pick(r, wrong...)
	case 5:
		p.Hello.Hello = pick(r, wrong...)
	case 6:
		p.Hello.Dead = pick(r, wrong...)
	}
	return p
}
