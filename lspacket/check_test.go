package lspacket_test

import (
	"math"
	"math/rand/v2"
	"slices"
	"testing"

	"routing/api"
	"routing/lsa"
	"routing/lspacket"
)

// plain returns a valid packet of a kind.
func plain(kind int) api.LSPacket {
	p := api.LSPacket{Kind: kind, Router: 7}
	if kind == 1 {
		p.Hello = api.Hello{Hello: 10, Dead: 40}
	}
	return p
}

// header returns a valid header of the network with this address.
func header(id uint32) api.LSAHeader {
	return api.LSAHeader{Type: 2, ID: id, Len: 24, Router: 7, Seq: 1}
}

// network returns a sealed advertisement with that header.
func network(id uint32) api.LSA {
	l, _ := lsa.Seal(api.LSA{Header: header(id), Attached: []uint32{7}})
	return l
}

func key(id uint32) api.LSAKey { return keyOf(header(id)) }

// listed returns the elements for 1 to n.
func listed[T any](n int, one func(uint32) T) []T {
	var l []T
	for i := range uint32(n) {
		l = append(l, one(i+1))
	}
	return l
}

func checkPacket(t *testing.T, p api.LSPacket, want api.Errno) {
	t.Helper()
	if e := checkError(p); e != want {
		t.Errorf("the definition itself: %v has %v, not %v", p, e, want)
	}
	if e := lspacket.Check(p); e != want {
		t.Errorf("Check(%v): %v, not %v", p, e, want)
	}
	if b, e := lspacket.Encode(p); e != want || e != api.OK && b != nil {
		t.Errorf("Encode(%v): %v, %v, not %v", p, b, e, want)
	}
}

// P24.1: kinds, routers, and fields of other kinds, in this order.
func TestCheckFields(t *testing.T) {
	fields := []struct {
		change func(*api.LSPacket)
		kinds  []int
	}{
		{func(p *api.LSPacket) { p.Area = 5 }, []int{1, 2, 3, 4, 5}},
		{func(p *api.LSPacket) { p.Addr = 5 }, []int{1, 2, 3, 4, 5}},
		{func(p *api.LSPacket) { p.Hello.Len = 5 }, []int{1}},
		{func(p *api.LSPacket) { p.Hello.Hello = 5 }, []int{1}},
		{func(p *api.LSPacket) { p.Hello.Dead = 5 }, []int{1}},
		{func(p *api.LSPacket) { p.Hello.Priority = 5 }, []int{1}},
		{func(p *api.LSPacket) { p.Hello.DR = 5 }, []int{1}},
		{func(p *api.LSPacket) { p.Hello.BDR = 5 }, []int{1}},
		{func(p *api.LSPacket) { p.Hello.Seen = []uint32{5} }, []int{1}},
		{func(p *api.LSPacket) { p.Seq = 5 }, []int{2}},
		{func(p *api.LSPacket) { p.Init = true }, []int{2}},
		{func(p *api.LSPacket) { p.More = true }, []int{2}},
		{func(p *api.LSPacket) { p.Master = true }, []int{2}},
		{func(p *api.LSPacket) { p.Headers = listed(1, header) }, []int{2, 5}},
		{func(p *api.LSPacket) { p.Keys = listed(1, key) }, []int{3}},
		{func(p *api.LSPacket) { p.LSAs = listed(1, network) }, []int{4}},
	}
	for kind := 1; kind <= 5; kind++ {
		p := plain(kind)
		p.Hello.Seen, p.Headers, p.Keys, p.LSAs = []uint32{}, []api.LSAHeader{}, []api.LSAKey{}, []api.LSA{}
		checkPacket(t, p, api.OK)
		for _, f := range fields {
			p := plain(kind)
			f.change(&p)
			want := api.ErrInvalid
			if slices.Contains(f.kinds, kind) {
				want = api.OK
			}
			checkPacket(t, p, want)
			p.Router = 0
			checkPacket(t, p, api.ErrRange)
			p.Kind = 6
			checkPacket(t, p, api.ErrKind)
		}
	}
	for _, kind := range wrong {
		if kind < 1 || kind > 5 {
			checkPacket(t, plain(kind), api.ErrKind)
		}
	}
	// Fields of other kinds come before the limits of the own ones.
	p := plain(1)
	p.Hello.Len, p.Seq = 33, 1
	checkPacket(t, p, api.ErrInvalid)
	p = plain(2)
	p.Seq, p.Keys = -1, listed(1, key)
	checkPacket(t, p, api.ErrInvalid)
}

// P24.1: the limits of the numbers of a hello and of a database packet.
func TestCheckNumbers(t *testing.T) {
	for _, x := range wrong {
		for _, f := range []struct {
			field     func(*api.LSPacket) *int
			low, high int
			kind      int
		}{
			{func(p *api.LSPacket) *int { return &p.Hello.Len }, 0, 32, 1},
			{func(p *api.LSPacket) *int { return &p.Hello.Hello }, 1, 65535, 1},
			{func(p *api.LSPacket) *int { return &p.Hello.Dead }, 1, 65535, 1},
			{func(p *api.LSPacket) *int { return &p.Hello.Priority }, 0, 255, 1},
			{func(p *api.LSPacket) *int { return &p.Seq }, 0, maxSeq, 2},
		} {
			p := plain(f.kind)
			*f.field(&p) = x
			want := api.OK
			if x < f.low || x > f.high {
				want = api.ErrRange
			}
			checkPacket(t, p, want)
			// The numbers come before the lists.
			p.Hello.Seen = make([]uint32, 65*(2-f.kind))
			p.Headers = make([]api.LSAHeader, 65*(f.kind-1))
			if want == api.OK {
				want = api.ErrTooLong
			}
			checkPacket(t, p, want)
		}
	}
}

// P24.1: the routers that a hello lists.
func TestCheckSeen(t *testing.T) {
	one := func(i uint32) uint32 { return i }
	for _, x := range []struct {
		l []uint32
		e api.Errno
	}{
		{[]uint32{1, 7, math.MaxUint32}, api.OK},
		{listed(64, one), api.OK},
		{listed(65, one), api.ErrTooLong},
		{make([]uint32, 65), api.ErrTooLong},
		{make([]uint32, 64), api.ErrOrder},
		{[]uint32{0}, api.ErrOrder},
		{[]uint32{0, 1}, api.ErrOrder},
		{[]uint32{2, 1}, api.ErrOrder},
		{[]uint32{2, 2}, api.ErrOrder},
		{[]uint32{1, 2, 0}, api.ErrOrder},
	} {
		p := plain(1)
		p.Hello.Seen = x.l
		checkPacket(t, p, x.e)
	}
}

// P24.1: the headers of database packets and acknowledgements.
func TestCheckHeaders(t *testing.T) {
	bad := header(3)
	bad.Router = 0
	for _, x := range []struct {
		l []api.LSAHeader
		e api.Errno
	}{
		{listed(64, header), api.OK},
		{listed(65, header), api.ErrTooLong},
		{make([]api.LSAHeader, 65), api.ErrTooLong},
		{make([]api.LSAHeader, 64), api.ErrKind},
		{[]api.LSAHeader{header(2), header(1)}, api.ErrOrder},
		{[]api.LSAHeader{header(2), header(2)}, api.ErrOrder},
		{[]api.LSAHeader{header(2), {Type: 2, ID: 2, Len: 24, Router: 7, Seq: 2}}, api.ErrOrder},
		{[]api.LSAHeader{header(2), {Type: 2, ID: 2, Len: 24, Router: 8, Seq: 1}}, api.OK},
		{[]api.LSAHeader{header(2), {Type: 2, ID: 2, Len: 25, Router: 1, Seq: 1}}, api.OK},
		{[]api.LSAHeader{header(2), {Type: 1, ID: 9, Router: 9, Seq: 1}}, api.ErrOrder},
		{[]api.LSAHeader{header(1), bad, header(2)}, api.ErrRange},
		{[]api.LSAHeader{header(2), header(1), bad}, api.ErrOrder},
		{[]api.LSAHeader{header(9), bad}, api.ErrRange},
		{[]api.LSAHeader{{Type: 1, ID: 8, Router: 7, Seq: 1}}, api.ErrMismatch},
		{[]api.LSAHeader{{Type: 3, ID: 8, Router: 7, Seq: 1}}, api.ErrInvalid},
		{[]api.LSAHeader{{Type: 6, ID: 8, Router: 7, Seq: 1}}, api.ErrKind},
	} {
		for _, kind := range []int{2, 5} {
			p := plain(kind)
			p.Headers = x.l
			checkPacket(t, p, x.e)
		}
	}
}

// P24.1: the keys of a request.
func TestCheckKeys(t *testing.T) {
	for _, x := range []struct {
		l []api.LSAKey
		e api.Errno
	}{
		{listed(64, key), api.OK},
		{listed(65, key), api.ErrTooLong},
		{make([]api.LSAKey, 65), api.ErrTooLong},
		{make([]api.LSAKey, 64), api.ErrKind},
		{[]api.LSAKey{{Type: 6}}, api.ErrKind},
		{[]api.LSAKey{{Type: -1, Len: -1}}, api.ErrKind},
		{[]api.LSAKey{{Type: 1}}, api.ErrRange},
		{[]api.LSAKey{{Type: 5, Router: 1, Len: 33}}, api.ErrRange},
		{[]api.LSAKey{{Type: 5, Router: 1, Len: -1}}, api.ErrRange},
		{[]api.LSAKey{{Type: 5, Router: 1, Len: 32}}, api.OK},
		// Nothing else of a key is checked.
		{[]api.LSAKey{{Type: 1, ID: 9, Len: 32, Router: 1}, {Type: 3, ID: 1, Router: 1}, {Type: 4, Len: 9, Router: 1}}, api.OK},
		{[]api.LSAKey{key(1), key(1)}, api.ErrOrder},
		{[]api.LSAKey{key(2), key(1), {}}, api.ErrOrder},
		{[]api.LSAKey{key(2), {}, key(1)}, api.ErrKind},
		{[]api.LSAKey{key(2), {Type: 1}}, api.ErrRange},
	} {
		p := plain(3)
		p.Keys = x.l
		checkPacket(t, p, x.e)
	}
}

// P24.1: the advertisements of an update.
func TestCheckLSAs(t *testing.T) {
	open := network(5)
	open.Header.Sum++
	wrong := open
	wrong.Cost = 1
	newer := api.LSA{Header: header(2), Attached: []uint32{7, 8}}
	newer.Header.Seq = 2
	newer, _ = lsa.Seal(newer)
	for _, x := range []struct {
		l []api.LSA
		e api.Errno
	}{
		{listed(64, network), api.OK},
		{listed(65, network), api.ErrTooLong},
		{make([]api.LSA, 65), api.ErrTooLong},
		{make([]api.LSA, 64), api.ErrKind},
		{[]api.LSA{open}, api.ErrChecksum},
		{[]api.LSA{wrong}, api.ErrInvalid},
		{[]api.LSA{network(6), open}, api.ErrChecksum},
		{[]api.LSA{network(6), wrong}, api.ErrInvalid},
		{[]api.LSA{network(2), network(1), open}, api.ErrOrder},
		{[]api.LSA{network(2), network(2)}, api.ErrOrder},
		{[]api.LSA{network(2), newer}, api.ErrOrder},
		{[]api.LSA{network(1), newer, network(3)}, api.OK},
	} {
		p := plain(4)
		p.LSAs = x.l
		checkPacket(t, p, x.e)
	}
}

// P24.1, P24.2: any packets with up to three changes.
func TestCheckAny(t *testing.T) {
	r := rand.New(rand.NewPCG(24, 1))
	found := map[api.Errno]int{}
	for range 5000 {
		p := anyPacket(r)
		for range r.IntN(4) {
			p = damaged(r, p)
		}
		want := checkError(p)
		found[want]++
		checkPacket(t, p, want)
	}
	for _, e := range []api.Errno{api.OK, api.ErrKind, api.ErrRange, api.ErrInvalid, api.ErrTooLong, api.ErrOrder, api.ErrChecksum} {
		if found[e] < 20 {
			t.Errorf("only %d packets with %v", found[e], e)
		}
	}
}
