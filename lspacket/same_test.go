package lspacket_test

import (
	"bytes"
	"math/rand/v2"
	"reflect"
	"slices"
	"testing"

	"routing/api"
	"routing/lsa"
	"routing/lspacket"
)

// resealed returns l with the sum that seals it.
func resealed(l api.LSA) api.LSA {
	s, e := lsa.Seal(l)
	if e != api.OK {
		panic(e)
	}
	return s
}

// full returns a packet with something in each field.
func full() api.LSPacket {
	l := network(2)
	l.Links = []api.LSLink{{Kind: 1}}
	return api.LSPacket{
		Kind: 9, Router: 1, Area: 2, Addr: 3, Hello: api.Hello{Len: 4, Hello: 5, Dead: 6, Priority: 7, DR: 8, BDR: 9, Seen: []uint32{10, 11}},
		Seq: 12, Headers: listed(2, header), Keys: listed(2, key), LSAs: []api.LSA{network(1), l},
	}
}

// P24.4: each field counts.
func TestSame(t *testing.T) {
	for i, change := range []func(*api.LSPacket){
		func(p *api.LSPacket) {},
		func(p *api.LSPacket) { p.Kind++ },
		func(p *api.LSPacket) { p.Router++ },
		func(p *api.LSPacket) { p.Area++ },
		func(p *api.LSPacket) { p.Addr++ },
		func(p *api.LSPacket) { p.Hello.Len++ },
		func(p *api.LSPacket) { p.Hello.Hello++ },
		func(p *api.LSPacket) { p.Hello.Dead++ },
		func(p *api.LSPacket) { p.Hello.Priority++ },
		func(p *api.LSPacket) { p.Hello.DR++ },
		func(p *api.LSPacket) { p.Hello.BDR++ },
		func(p *api.LSPacket) { p.Hello.Seen[1]++ },
		func(p *api.LSPacket) { p.Hello.Seen = p.Hello.Seen[:1] },
		func(p *api.LSPacket) { p.Hello.Seen = nil },
		func(p *api.LSPacket) { slices.Reverse(p.Hello.Seen) },
		func(p *api.LSPacket) { p.Seq++ },
		func(p *api.LSPacket) { p.Init = true },
		func(p *api.LSPacket) { p.More = true },
		func(p *api.LSPacket) { p.Master = true },
		func(p *api.LSPacket) { p.Headers[1].Age++ },
		func(p *api.LSPacket) { p.Headers[1].Type++ },
		func(p *api.LSPacket) { p.Headers = p.Headers[1:] },
		func(p *api.LSPacket) { p.Headers = nil },
		func(p *api.LSPacket) { p.Keys[0].Len++ },
		func(p *api.LSPacket) { p.Keys = append(p.Keys, api.LSAKey{}) },
		func(p *api.LSPacket) { p.LSAs[1].Header.Seq++ },
		func(p *api.LSPacket) { p.LSAs[1].Header.Age++ },
		func(p *api.LSPacket) { p.LSAs[1].Header.Sum++ },
		func(p *api.LSPacket) { p.LSAs[1].Header.Router++ },
		func(p *api.LSPacket) { p.LSAs[1].Border = true },
		func(p *api.LSPacket) { p.LSAs[1].Boundary = true },
		func(p *api.LSPacket) { p.LSAs[1].Links[0].Cost++ },
		func(p *api.LSPacket) { p.LSAs[1].Attached[0]++ },
		func(p *api.LSPacket) { p.LSAs[1].Cost++ },
		func(p *api.LSPacket) { p.LSAs[1].Second = true },
		func(p *api.LSPacket) { p.LSAs[1].Forward++ },
		func(p *api.LSPacket) { p.LSAs[1].Tag++ },
		func(p *api.LSPacket) { p.LSAs = p.LSAs[:1] },
		func(p *api.LSPacket) { slices.Reverse(p.LSAs) },
	} {
		a, b := full(), full()
		change(&b)
		if is := lspacket.Same(a, b); is != (i == 0) {
			t.Errorf("change %d: %v", i, is)
		}
		if lspacket.Same(a, b) != lspacket.Same(b, a) {
			t.Errorf("change %d: not symmetric", i)
		}
	}
	empty := api.LSPacket{Hello: api.Hello{Seen: []uint32{}}, Headers: []api.LSAHeader{}, Keys: []api.LSAKey{}, LSAs: []api.LSA{}}
	if !lspacket.Same(empty, api.LSPacket{}) {
		t.Error("lists that are nil and empty ones")
	}
}

// P24.4: any packets.
func TestSameAny(t *testing.T) {
	r := rand.New(rand.NewPCG(24, 8))
	found := map[bool]int{}
	for range 10000 {
		a := anyPacket(r)
		b := damaged(r, a)
		want := equal(a, b)
		found[want]++
		if is := lspacket.Same(a, b); is != want {
			t.Fatalf("Same(%v, %v) = %v", a, b, is)
		}
	}
	if found[true] < 200 || found[false] < 200 {
		t.Error("too few pairs", found)
	}
}

func all[T any](l []T) []T { return slices.Clone(l[:cap(l)]) }

// roomy returns a list like l with spare elements behind its end.
func roomy[T any](l []T, spare T) []T { return append(slices.Clone(l), spare, spare)[:len(l)] }

func fill[T any](l []T, x T) {
	for i := range l[:cap(l)] {
		l[:cap(l)][i] = x
	}
}

// whole returns a copy of p with what lies behind the ends of its lists.
func whole(p api.LSPacket) api.LSPacket {
	p.Hello.Seen, p.Headers, p.Keys, p.LSAs = all(p.Hello.Seen), all(p.Headers), all(p.Keys), all(p.LSAs)
	for i, l := range p.LSAs {
		p.LSAs[i].Links, p.LSAs[i].Attached = all(l.Links), all(l.Attached)
	}
	return p
}

// scrawl overwrites the memory of all lists of p.
func scrawl(p api.LSPacket) {
	for _, l := range p.LSAs {
		fill(l.Links, api.LSLink{Kind: -7})
		fill(l.Attached, 77)
	}
	fill(p.Hello.Seen, 77)
	fill(p.Headers, api.LSAHeader{Type: -7})
	fill(p.Keys, api.LSAKey{Type: -7})
	fill(p.LSAs, api.LSA{Cost: -7})
}

// R5: no function changes its arguments or what lies behind their ends, and results share no memory with them.
func TestMemory(t *testing.T) {
	r := rand.New(rand.NewPCG(24, 9))
	for i := range 2000 {
		p := anyPacket(r)
		if i%4 == 0 {
			p = damaged(r, p)
		}
		p.Hello.Seen, p.Headers, p.Keys, p.LSAs = roomy(p.Hello.Seen, 77), roomy(p.Headers, api.LSAHeader{Type: 77}), roomy(p.Keys, api.LSAKey{Type: 77}), roomy(p.LSAs, api.LSA{Cost: 77})
		for i, l := range p.LSAs {
			p.LSAs[i].Links, p.LSAs[i].Attached = roomy(l.Links, api.LSLink{Kind: 77}), roomy(l.Attached, 77)
		}
		before, wired := whole(p), wire(p)
		b := roomy(wired, 77)
		kept, bytesBefore := copied(p), all(b)
		lspacket.Check(p)
		lspacket.Same(p, p)
		encoded, ee := lspacket.Encode(p)
		decoded, ed := lspacket.Decode(b)
		if !reflect.DeepEqual(whole(p), before) || !bytes.Equal(all(b), bytesBefore) {
			t.Fatal("changed", kept)
		}
		scrawl(p)
		fill(b, 77)
		if ee == api.OK && !bytes.Equal(encoded, wired) || ed == api.OK && ee == api.OK && !equal(decoded, kept) {
			t.Fatal("shared", kept)
		}
		fill(encoded, 78)
		if ed == api.OK && ee == api.OK && !equal(decoded, kept) {
			t.Fatal("shared", kept)
		}
	}
}

// R5: the lists of one result share no memory.
func TestListsAreApart(t *testing.T) {
	r := rand.New(rand.NewPCG(24, 10))
	for range 500 {
		p := anyPacket(r)
		if p.Kind != 4 {
			continue
		}
		d, e := lspacket.Decode(wire(p))
		if e != api.OK {
			t.Fatal(p, e)
		}
		for i := range d.LSAs {
			fill(d.LSAs[i].Links, api.LSLink{Kind: -7})
			fill(d.LSAs[i].Attached, 77)
			d.LSAs[i] = p.LSAs[i]
			if !equal(d, p) {
				t.Fatal("shared", i, p)
			}
		}
	}
}
