package lsa_test

import (
	"math"
	"math/rand/v2"
	"slices"

	"routing/api"
)

func pick[T any](r *rand.Rand, l ...T) T { return l[r.IntN(len(l))] }

var (
	wrong = []int{math.MinInt, -1 << 32, -1, 0, 1, 2, 3, 4, 5, 6, 32, 33, 255, 256, 3599, 3600, 3601, 65535, 65536, maxCost, maxCost + 1, maxSeq, maxSeq + 1, maxAS, maxAS + 1, math.MaxInt}
	words = []uint32{0, 1, 2, 3, 32, 33, 0x0a000000, 0x0a000001, 0x0a010000, 0x80000000, 0xfffffffe, math.MaxUint32}
)

// anyPrefix returns the address and the length of a valid prefix.
func anyPrefix(r *rand.Rand) (uint32, int) {
	n := pick(r, 0, 1, 8, 16, 24, 31, 32)
	return uint32(uint64(r.Uint32()) >> (32 - n) << (32 - n)), n
}

// anyHeader returns a valid header.
func anyHeader(r *rand.Rand) api.LSAHeader {
	h := api.LSAHeader{
		Type: 1 + r.IntN(5), Router: pick(r, 1, 2, 7, math.MaxUint32, 1+r.Uint32N(1<<31)),
		Seq: pick(r, 1, 2, maxSeq, 1+r.IntN(maxSeq)), Age: pick(r, 0, 1, maxAge, r.IntN(maxAge+1)), Sum: pick(r, 0, 65535, r.IntN(65536)),
	}
	switch h.Type {
	case 1:
		h.ID = h.Router
	case 2:
		h.ID, h.Len = 1+r.Uint32N(math.MaxUint32), r.IntN(33)
	case 4:
		h.ID = 1 + r.Uint32N(math.MaxUint32)
	default:
		h.ID, h.Len = anyPrefix(r)
	}
	return h
}

func anyLink(r *rand.Rand, router uint32) api.LSLink {
	k := api.LSLink{Kind: 1 + r.IntN(3), ID: r.Uint32(), Data: pick(r, 0, 1, r.Uint32()), Cost: pick(r, 1, maxMetric, 1+r.IntN(maxMetric))}
	if k.Kind == 1 {
		k.ID = pick(r, 5, 6, k.ID)
		for k.ID == 0 || k.ID == router {
			k.ID++
		}
	}
	if k.Kind == 3 {
		address, n := anyPrefix(r)
		k.ID, k.Data = address, uint32(n)
	}
	return k
}

// anyLSA returns a valid advertisement that is not sealed.
func anyLSA(r *rand.Rand) api.LSA {
	l := api.LSA{Header: anyHeader(r)}
	switch l.Header.Type {
	case 1:
		l.Border, l.Boundary = r.IntN(2) == 0, r.IntN(2) == 0
		for range pick(r, 0, 1, 2, 5, 120) {
			l.Links = append(l.Links, anyLink(r, l.Header.Router))
		}
		compare := func(a, b api.LSLink) int { return slices.Compare(places(a), places(b)) }
		slices.SortFunc(l.Links, compare)
		l.Links = slices.CompactFunc(l.Links, func(a, b api.LSLink) bool { return compare(a, b) == 0 })
		l.Links = l.Links[:min(len(l.Links), maxList)]
	case 2:
		l.Attached = []uint32{l.Header.Router}
		for range pick(r, 0, 1, 2, 5, 63) {
			l.Attached = append(l.Attached, pick(r, 1+r.Uint32N(10), 1+r.Uint32N(math.MaxUint32)))
		}
		slices.Sort(l.Attached)
		l.Attached = slices.Compact(l.Attached)
	case 5:
		l.Second, l.Forward, l.Tag = r.IntN(2) == 0, pick(r, 0, api.Addr(r.Uint32())), pick(r, 0, maxAS, r.IntN(maxAS+1))
	}
	if l.Header.Type >= 3 {
		l.Cost = pick(r, 0, 1, maxCost, r.IntN(maxCost+1))
	}
	return l
}

// damagedHeader returns a header like h, of which one field has another value.
func damagedHeader(r *rand.Rand, h api.LSAHeader) api.LSAHeader {
	switch r.IntN(7) {
	case 0:
		h.Type = pick(r, wrong...)
	case 1:
		h.ID = pick(r, words...)
	case 2:
		h.Len = pick(r, wrong...)
	case 3:
		h.Router = pick(r, words...)
	case 4:
		h.Seq = pick(r, wrong...)
	case 5:
		h.Age = pick(r, wrong...)
	case 6:
		h.Sum = pick(r, wrong...)
	}
	return h
}

// damaged returns an advertisement like l, in which one thing is another one.
func damaged(r *rand.Rand, l api.LSA) api.LSA {
	l.Links, l.Attached = slices.Clone(l.Links), slices.Clone(l.Attached)
	switch r.IntN(12) {
	case 0:
		l.Header = damagedHeader(r, l.Header)
	case 1:
		l.Border = !l.Border
	case 2:
		l.Boundary = !l.Boundary
	case 3:
		l.Links = append(l.Links, anyLink(r, l.Header.Router))
	case 4:
		l.Attached = append(l.Attached, pick(r, words...))
	case 5:
		l.Attached = nil
	case 6:
		l.Cost = pick(r, wrong...)
	case 7:
		l.Second = !l.Second
	case 8:
		l.Forward = api.Addr(pick(r, words...))
	case 9:
		l.Tag = pick(r, wrong...)
	case 10, 11:
		l = damagedList(r, l)
	}
	return l
}

// damagedList changes one element of the list of l, if there is one.
func damagedList(r *rand.Rand, l api.LSA) api.LSA {
	if len(l.Attached) > 0 {
		l.Attached[r.IntN(len(l.Attached))] = pick(r, words...)
	}
	if len(l.Links) == 0 {
		return l
	}
	k := &l.Links[r.IntN(len(l.Links))]
	switch r.IntN(5) {
	case 0:
		k.Kind = pick(r, wrong...)
	case 1:
		k.ID = pick(r, append(words, l.Header.Router)...)
	case 2:
		k.Data = pick(r, words...)
	case 3:
		k.Cost = pick(r, wrong...)
	case 4:
		*k = l.Links[r.IntN(len(l.Links))]
	}
	return l
}
