package lspacket_test

import (
	"math"
	"math/rand/v2"
	"slices"

	"routing/api"
	"routing/lsa"
)

func pick[T any](r *rand.Rand, l ...T) T { return l[r.IntN(len(l))] }

// sizes are lengths of lists, before they are cut to the limit.
var sizes = []int{0, 1, 1, 2, 3, 5, 90}

var (
	wrong = []int{math.MinInt, -1 << 32, -1, 0, 1, 2, 3, 4, 5, 6, 32, 33, 255, 256, 3601, 65535, 65536, maxSeq, maxSeq + 1, 1 << 32, math.MaxInt}
	words = []uint32{0, 1, 2, 3, 0x0a000000, 0x0a000001, 0x80000000, math.MaxUint32}
)

func cut[T any](l []T) []T { return l[:min(len(l), maxList)] }

// anyKey returns a key of a valid header.
func anyKey(r *rand.Rand) api.LSAKey {
	k := api.LSAKey{Type: 1 + r.IntN(5), Router: pick(r, 1, 2, math.MaxUint32, 1+r.Uint32N(1<<31))}
	switch k.Type {
	case 1:
		k.ID = k.Router
	case 2, 4:
		k.ID = 1 + r.Uint32N(1<<31)
	default:
		k.Len = r.IntN(33)
		k.ID = uint32(uint64(r.Uint32()) >> (32 - k.Len) << (32 - k.Len))
	}
	return k
}

// anyKeys returns ascending keys.
func anyKeys(r *rand.Rand) []api.LSAKey {
	var l []api.LSAKey
	for range pick(r, sizes...) {
		l = append(l, anyKey(r))
	}
	slices.SortFunc(l, func(a, b api.LSAKey) int {
		if before(a, b) {
			return -1
		}
		return 1
	})
	return cut(slices.Compact(l))
}

// anyHeaders returns valid headers, ascending by key.
func anyHeaders(r *rand.Rand) []api.LSAHeader {
	var l []api.LSAHeader
	for _, k := range anyKeys(r) {
		l = append(l, api.LSAHeader{Type: k.Type, ID: k.ID, Len: k.Len, Router: k.Router, Seq: pick(r, 1, maxSeq, 1+r.IntN(maxSeq)), Age: r.IntN(3601), Sum: r.IntN(65536)})
	}
	return l
}

// anyLSAs returns valid sealed advertisements, ascending by key.
func anyLSAs(r *rand.Rand) []api.LSA {
	var l []api.LSA
	for _, h := range anyHeaders(r) {
		x := api.LSA{Header: h}
		switch h.Type {
		case 1:
			x.Border = r.IntN(2) == 0
			for i := range r.IntN(4) {
				x.Links = append(x.Links, api.LSLink{Kind: 2, ID: uint32(i), Data: r.Uint32(), Cost: 1 + r.IntN(65535)})
			}
		case 2:
			x.Attached = []uint32{h.Router}
		default:
			x.Cost = r.IntN(1 << 24)
		}
		s, e := lsa.Seal(x)
		if e != api.OK {
			panic(e)
		}
		l = append(l, s)
	}
	return l
}

func anyHello(r *rand.Rand) api.Hello {
	h := api.Hello{
		Len: r.IntN(33), Hello: pick(r, 1, 65535, 1+r.IntN(65535)), Dead: pick(r, 1, 65535, 1+r.IntN(65535)),
		Priority: pick(r, 0, 255, r.IntN(256)), DR: pick(r, words...), BDR: pick(r, r.Uint32(), 0),
	}
	for range pick(r, sizes...) {
		h.Seen = append(h.Seen, 1+r.Uint32N(math.MaxUint32))
	}
	slices.Sort(h.Seen)
	h.Seen = cut(slices.Compact(h.Seen))
	return h
}

// anyPacket returns a valid packet.
func anyPacket(r *rand.Rand) api.LSPacket {
	p := api.LSPacket{Kind: 1 + r.IntN(5), Router: pick(r, 1, math.MaxUint32, 1+r.Uint32N(1<<31)), Area: pick(r, 0, 1, r.Uint32()), Addr: api.Addr(pick(r, 0, r.Uint32()))}
	switch p.Kind {
	case 1:
		p.Hello = anyHello(r)
	case 2:
		p.Seq, p.Init, p.More, p.Master = pick(r, 0, maxSeq, r.IntN(maxSeq)), r.IntN(2) == 0, r.IntN(2) == 0, r.IntN(2) == 0
		p.Headers = anyHeaders(r)
	case 3:
		p.Keys = anyKeys(r)
	case 4:
		p.LSAs = anyLSAs(r)
	case 5:
		p.Headers = anyHeaders(r)
	}
	return p
}

// copied returns a packet like p with lists of its own.
func copied(p api.LSPacket) api.LSPacket {
	p.Hello.Seen, p.Headers, p.Keys, p.LSAs = slices.Clone(p.Hello.Seen), slices.Clone(p.Headers), slices.Clone(p.Keys), slices.Clone(p.LSAs)
	for i, l := range p.LSAs {
		p.LSAs[i].Links, p.LSAs[i].Attached = slices.Clone(l.Links), slices.Clone(l.Attached)
	}
	return p
}

// damaged returns a packet like p, in which one thing is another one.
func damaged(r *rand.Rand, p api.LSPacket) api.LSPacket {
	p = copied(p)
	if r.IntN(3) > 0 {
		damageOwn(r, &p)
		return p
	}
	switch r.IntN(16) {
	case 0:
		p.Kind = pick(r, wrong...)
	case 1:
		p.Router = pick(r, words...)
	case 2:
		p.Area = pick(r, words...)
	case 3:
		p.Addr = api.Addr(pick(r, words...))
	case 4:
		p.Hello.Len = pick(r, wrong...)
	case 5:
		p.Hello.Hello = pick(r, wrong...)
	case 6:
		p.Hello.Dead = pick(r, wrong...)
	case 7:
		p.Hello.Priority = pick(r, wrong...)
	case 8:
		p.Hello.DR, p.Hello.BDR = p.Hello.BDR, p.Hello.DR
	case 9:
		p.Hello.Seen = append(p.Hello.Seen, pick(r, words...))
	case 10:
		p.Seq = pick(r, wrong...)
	case 11:
		p.Init, p.More, p.Master = p.More, p.Master, !p.Init
	case 12:
		p.Headers = append(p.Headers, anyHeaders(r)...)
	case 13:
		p.Keys = append(p.Keys, anyKeys(r)...)
	case 14:
		p.LSAs = append(p.LSAs, anyLSAs(r)...)
	}
	return p
}

// damageOwn changes an element of a list of p or appends one to it.
func damageOwn(r *rand.Rand, p *api.LSPacket) {
	switch p.Kind {
	case 1:
		if i := r.IntN(len(p.Hello.Seen) + 1); i < len(p.Hello.Seen) {
			p.Hello.Seen[i] = pick(r, words...)
		}
		p.Hello.Priority = pick(r, p.Hello.Priority, 255, 256)
	case 3:
		damageElement(r, &p.Keys, anyKey, func(k *api.LSAKey) {
			*pick(r, &k.Type, &k.Len) = pick(r, wrong...)
			*pick(r, &k.ID, &k.Router) = pick(r, words...)
		})
	case 4:
		damageElement(r, &p.LSAs, func(r *rand.Rand) api.LSA { return api.LSA{Header: api.LSAHeader{Type: 3, Router: 1, Seq: 1}} }, func(l *api.LSA) {
			if r.IntN(2) == 0 {
				l.Header.Age = pick(r, 0, 3600, 3601)
				return
			}
			*pick(r, &l.Header.Seq, &l.Header.Sum, &l.Cost, &l.Tag) = pick(r, wrong...)
		})
	case 2, 5:
		damageElement(r, &p.Headers, func(r *rand.Rand) api.LSAHeader { return api.LSAHeader{Type: 3, Router: 1, Seq: 1} }, func(h *api.LSAHeader) {
			*pick(r, &h.Type, &h.Len, &h.Seq, &h.Age, &h.Sum) = pick(r, wrong...)
		})
	}
}

// damageElement changes an element, swaps two of them, or appends one.
func damageElement[T any](r *rand.Rand, l *[]T, one func(*rand.Rand) T, change func(*T)) {
	if len(*l) == 0 || r.IntN(4) == 0 {
		*l = append(*l, one(r))
		return
	}
	i, j := r.IntN(len(*l)), r.IntN(len(*l))
	if r.IntN(3) == 0 {
		(*l)[i] = (*l)[j]
		return
	}
	change(&(*l)[i])
}
