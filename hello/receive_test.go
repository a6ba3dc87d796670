package hello_test

import (
	"math/rand/v2"
	"slices"
	"testing"

	"routing/api"
	"routing/hello"
	"routing/lspacket"
)

// packet returns a hello of a router that suits plain.
func packet(router uint32, seen ...uint32) api.LSPacket {
	return api.LSPacket{Kind: 1, Router: router, Area: 5, Addr: 0x0a000000 + api.Addr(router), Hello: api.Hello{Len: 24, Hello: 10, Dead: 40, Priority: 3, DR: 8, BDR: 9, Seen: seen}}
}

// crowd returns n neighbors with the routers from 100 on.
func crowd(n int) []api.Neighbor {
	var l []api.Neighbor
	for i := range n {
		l = append(l, api.Neighbor{Router: uint32(100 + i), State: 2, Until: 500})
	}
	return l
}

// P26.3: each error, and of two the one that is named first.
func TestReceiveErrors(t *testing.T) {
	type change func(*api.IfState, *api.LSPacket)
	groups := []struct {
		e       api.Errno
		changes []change
	}{
		{api.ErrState, []change{
			func(s *api.IfState, _ *api.LSPacket) { s.Up = false },
			func(s *api.IfState, _ *api.LSPacket) { s.Conf.Kind = 3 },
		}},
		{api.ErrKind, []change{
			func(_ *api.IfState, p *api.LSPacket) { p.Kind = 0 },
			func(_ *api.IfState, p *api.LSPacket) { p.Kind = 2 },
			func(_ *api.IfState, p *api.LSPacket) { p.Kind = 5 },
		}},
		{api.ErrMismatch, []change{
			func(_ *api.IfState, p *api.LSPacket) { p.Area = 6 },
			func(_ *api.IfState, p *api.LSPacket) { p.Hello.Len = 25 },
			func(_ *api.IfState, p *api.LSPacket) { p.Hello.Hello = 11 },
			func(_ *api.IfState, p *api.LSPacket) { p.Hello.Dead = 39 },
			func(_ *api.IfState, p *api.LSPacket) { p.Addr = 0x0a000100 },
			func(_ *api.IfState, p *api.LSPacket) { p.Addr = 0x09ffffff },
		}},
		{api.ErrInvalid, []change{
			func(_ *api.IfState, p *api.LSPacket) { p.Router = 0 },
			func(_ *api.IfState, p *api.LSPacket) { p.Router = 1 },
			func(s *api.IfState, p *api.LSPacket) { p.Addr = s.Conf.Addr },
		}},
		{api.ErrExists, []change{
			func(s *api.IfState, _ *api.LSPacket) { s.Conf.Kind, s.Neighbors = 1, crowd(1) },
			func(s *api.IfState, _ *api.LSPacket) { s.Conf.Kind, s.Neighbors = 1, crowd(63) },
		}},
		{api.ErrFull, []change{
			func(s *api.IfState, _ *api.LSPacket) { s.Conf.Kind, s.Neighbors = 2, crowd(63) },
		}},
		{api.OK, []change{
			func(s *api.IfState, _ *api.LSPacket) { s.Conf.Kind = 2 },
			func(s *api.IfState, _ *api.LSPacket) { s.Neighbors = crowd(62) },
			func(s *api.IfState, _ *api.LSPacket) { s.Neighbors = append([]api.Neighbor{{Router: 2}}, crowd(62)...) },
			func(s *api.IfState, _ *api.LSPacket) { s.Conf.Kind, s.Neighbors = 1, nil },
			func(s *api.IfState, _ *api.LSPacket) { s.Conf.Kind, s.Neighbors = 1, []api.Neighbor{{Router: 2}} },
			func(_ *api.IfState, p *api.LSPacket) { p.Addr = 0x0a0000ff },
			func(_ *api.IfState, p *api.LSPacket) { p.Addr = 0x0a000000 },
		}},
	}
	for a, g := range groups {
		for j, one := range g.changes {
			for b := a; b < len(groups); b++ {
				for k, other := range groups[b].changes {
					if a == b && j != k {
						continue
					}
					s, p := up(2), packet(2)
					other(&s, &p)
					one(&s, &p)
					if e := receiveError(s, 1, p); e != g.e {
						t.Errorf("the definition itself: %v, not %v", e, g.e)
					}
					got, e := hello.Receive(s, 1, p, 100)
					if e != g.e || e != api.OK && !equal(got, api.IfState{}) {
						t.Errorf("changes %d of %v and %d of %v: %v, %v", j, g.e, k, groups[b].e, got, e)
					}
				}
			}
		}
	}
}

// P26.3: the limit of the neighbors counts only for new ones.
func TestReceiveFull(t *testing.T) {
	s := up(2)
	for i := range uint32(70) {
		p := packet(100 + i)
		got, e := hello.Receive(s, 1, p, 100)
		if i >= maxList-1 {
			if e != api.ErrFull {
				t.Fatal("neighbor", i, e)
			}
			continue
		}
		if e != api.OK || !equal(got, received(s, 1, p, 100)) {
			t.Fatal("neighbor", i, got, e)
		}
		s = got
	}
	for i := range uint32(maxList - 1) {
		p := packet(100+i, 1)
		if got, e := hello.Receive(s, 1, p, 110); e != api.OK || !equal(got, received(s, 1, p, 110)) {
			t.Fatal("neighbor", i, "again", got, e)
		}
	}
	if e := lspacket.Check(hello.Make(s, 1)); e != api.OK {
		t.Error("the hello to all of them:", e)
	}
}

// P26.3
func TestReceive(t *testing.T) {
	r := rand.New(rand.NewPCG(26, 3))
	found := map[api.Errno]int{}
	for i := range 40000 {
		s := anyState(r)
		p := anyHello(r, s)
		if i%4 == 0 {
			p = oddHello(r, p)
		}
		router, now := pick[uint32](r, 1, 1, 1, 9, 5), pick(r, 0, 100, 1<<40, r.IntN(1000))
		var want api.IfState
		wanted := receiveError(s, router, p)
		found[wanted]++
		if wanted == api.OK {
			want = received(s, router, p, now)
		}
		if got, e := hello.Receive(s, router, p, now); e != wanted || !equal(got, want) {
			t.Fatalf("Receive(%v, %d, %v, %d) = %v, %v, not %v, %v", s, router, p, now, got, e, want, wanted)
		}
	}
	for _, e := range []api.Errno{api.OK, api.ErrKind, api.ErrMismatch, api.ErrInvalid, api.ErrExists} {
		if found[e] < 500 {
			t.Error("too few packets with", e, found)
		}
	}
}

// P26.3: what becomes of each state of a neighbor.
func TestReceiveStates(t *testing.T) {
	r := rand.New(rand.NewPCG(26, 13))
	for state := range 7 {
		n := anyNeighbor(r, 2)
		n.State, n.Master, n.Seq, n.More, n.Resend = state, true, 7, true, 8
		n.List, n.Sent, n.Requests, n.Unacked = []api.LSAHeader{{ID: 1}}, []api.LSAHeader{{ID: 2}}, []api.LSAHeader{{ID: 3}}, []api.LSAHeader{{ID: 4}}
		given := up(1, n)
		listed, _ := hello.Receive(given, 1, packet(2, 1), 100)
		n.Addr, n.Priority, n.DR, n.BDR, n.Until = 0x0a000002, 3, 8, 9, 140
		if state == 1 {
			n.State = 2
		}
		if !equal(listed, up(1, n)) {
			t.Errorf("state %d, listed: %v", state, listed)
		}
		missing, _ := hello.Receive(given, 1, packet(2, 2, 3), 100)
		if !equal(missing, up(1, api.Neighbor{Router: 2, Addr: 0x0a000002, Priority: 3, DR: 8, BDR: 9, Until: 140, State: 1})) {
			t.Errorf("state %d, not listed: %v", state, missing)
		}
	}
}

// P26.3, example 1
func TestReceiveExample(t *testing.T) {
	s := up(1)
	s, e := hello.Receive(s, 1, packet(2), 100)
	if n, ok := hello.Find(s, 2); e != api.OK || !ok || n.State != api.NbrInit || n.Until != 140 {
		t.Fatal(s, e)
	}
	s, e = hello.Receive(s, 1, packet(2, 1), 110)
	if n, ok := hello.Find(s, 2); e != api.OK || !ok || n.State != api.NbrTwoWay || n.Until != 150 {
		t.Error(s, e)
	}
	// A new neighbor that lists the router is two-way at once.
	s, e = hello.Receive(up(2), 1, packet(2, 1), 110)
	if n, ok := hello.Find(s, 2); e != api.OK || !ok || n.State != api.NbrTwoWay {
		t.Error(s, e)
	}
}

// P26.7: two routers on a link, each of which may know others, or the other one from before.
func TestTwoWay(t *testing.T) {
	r := rand.New(rand.NewPCG(26, 7))
	for range 5000 {
		a := anyState(r)
		b := anyState(r)
		b.Conf.Kind, b.Conf.Area, b.Conf.Dead, b.Conf.Addr = a.Conf.Kind, a.Conf.Area, a.Conf.Dead, 0x0a000002
		for i := range a.Neighbors {
			a.Neighbors[i].State = r.IntN(2)
		}
		for i := range b.Neighbors {
			b.Neighbors[i].State = r.IntN(2)
		}
		if a.Conf.Kind == api.IfPoint {
			a.Neighbors, b.Neighbors = nil, nil
		}
		first, second := uint32(20), pick(r, 2, 3, 30, r.Uint32()|64)
		now := r.IntN(1000)
		deliver := func(from, to *api.IfState, sender, receiver uint32) {
			b, e := lspacket.Encode(hello.Make(*from, sender))
			p, f := lspacket.Decode(b)
			next, g := hello.Receive(*to, receiver, p, now)
			if e != api.OK || f != api.OK || g != api.OK {
				t.Fatal("not received:", e, f, g)
			}
			*to = next
			now++
		}
		a.Neighbors = slices.DeleteFunc(a.Neighbors, func(n api.Neighbor) bool { return n.Router == second && n.State == 0 })
		b.Neighbors = slices.DeleteFunc(b.Neighbors, func(n api.Neighbor) bool { return n.Router == first && n.State == 0 })
		deliver(&a, &b, first, second)
		deliver(&b, &a, second, first)
		deliver(&a, &b, first, second)
		n, _ := hello.Find(a, second)
		m, _ := hello.Find(b, first)
		if n.State != api.NbrTwoWay || m.State != api.NbrTwoWay {
			t.Fatalf("states %d and %d", n.State, m.State)
		}
	}
}

// P26.8
func TestReceiveKeeps(t *testing.T) {
	r := rand.New(rand.NewPCG(26, 8))
	for range 20000 {
		s := anyState(r)
		s.Conf.Kind = 2
		p := anyHello(r, s)
		now := r.IntN(1000)
		once, e := hello.Receive(s, 1, p, now)
		twice, f := hello.Receive(once, 1, p, now)
		if e != api.OK || f != api.OK || !equal(once, twice) {
			t.Fatalf("%v twice: %v, %v, not %v, %v", p, twice, f, once, e)
		}
		others := func(s api.IfState) api.IfState {
			s.Neighbors = slices.DeleteFunc(slices.Clone(s.Neighbors), func(n api.Neighbor) bool { return n.Router == p.Router })
			return s
		}
		if !equal(others(once), others(s)) {
			t.Fatalf("%v changes something else: %v, not %v", p, once, s)
		}
		for i, n := range once.Neighbors {
			if i > 0 && once.Neighbors[i-1].Router >= n.Router {
				t.Fatal("not ascending", once)
			}
		}
	}
}

// P26.9
func TestHeardUntil(t *testing.T) {
	for _, dead := range []int{10, 11, 40, 65535} {
		for _, at := range []int{0, 1, 100, 1 << 40} {
			s, p := up(2, api.Neighbor{Router: 3, Until: 1 << 50}), packet(2)
			s.Conf.Dead, p.Hello.Dead = dead, dead
			s, _ = hello.Receive(s, 1, p, at)
			for _, now := range []int{at, at + 1, at + dead - 1, at + dead, at + dead + 1, at + 2*dead} {
				if _, ok := hello.Find(hello.Expire(s, now), 2); ok != (now < at+dead) {
					t.Errorf("heard at %d, dead after %d, present at %d: %v", at, dead, now, ok)
				}
				if _, ok := hello.Find(hello.Expire(s, now), 3); !ok {
					t.Error("another neighbor is gone")
				}
			}
		}
	}
}
