package lsdb_test

import (
	"math"
	"math/rand/v2"
	"slices"

	"routing/api"
)

func pick[T any](r *rand.Rand, l ...T) T { return l[r.IntN(len(l))] }

var (
	ages  = []int{0, 1, 100, 899, 900, 901, 1800, 3499, 3500, 3599, 3600}
	wrong = []int{math.MinInt, -1 << 32, -1, 0, 1, 2, 3, 4, 5, 6, 8, 32, 33, 3600, 3601, 65535, 65536, maxSeq, maxSeq + 1, math.MaxInt}
	words = []uint32{0, 1, 2, 3, 4, 0x0a000000, 0x0a000001, 0x80000000, math.MaxUint32}
)

// anyLSA returns a valid advertisement that is sealed; its key is one of a few.
func anyLSA(r *rand.Rand) api.LSA {
	l := api.LSA{Header: api.LSAHeader{Type: 1 + r.IntN(5), Router: 1 + r.Uint32N(4), Seq: pick(r, 1, 2, 3, maxSeq), Age: pick(r, ages...)}}
	h := &l.Header
	switch h.Type {
	case 1:
		h.ID = h.Router
		l.Border, l.Boundary = r.IntN(2) == 0, r.IntN(2) == 0
		for i := range r.Uint32N(4) {
			l.Links = append(l.Links, api.LSLink{Kind: 2, ID: i, Data: r.Uint32(), Cost: 1 + r.IntN(65535)})
		}
	case 2:
		h.ID, h.Len = 0x0a000000+1+r.Uint32N(3), 24
		l.Attached = []uint32{1, 2, 3, 4, 5 + r.Uint32N(9)}
	case 4:
		h.ID = 1 + r.Uint32N(4)
	default:
		h.ID, h.Len = 0x0a000000, pick(r, 8, 16)
		l.Second, l.Forward, l.Tag = r.IntN(2) == 0 && h.Type == 5, 0, r.IntN(3)*(h.Type/5)
	}
	if h.Type > 2 {
		l.Cost = r.IntN(9)
	}
	return sealed(l)
}

// anyDB returns a valid database of at most n advertisements.
func anyDB(r *rand.Rand, n int) []api.LSA {
	var db []api.LSA
	for range n {
		db = append(db, anyLSA(r))
	}
	return slices.CompactFunc(sorted(db), func(a, b api.LSA) bool { return keyOf(a.Header) == keyOf(b.Header) })
}

// damaged returns an advertisement like l, of which one thing is another one.
func damaged(r *rand.Rand, l api.LSA) api.LSA {
	l.Links, l.Attached = slices.Clone(l.Links), slices.Clone(l.Attached)
	switch r.IntN(14) {
	case 0:
		l.Header.Type = pick(r, wrong...)
	case 1:
		l.Header.ID = pick(r, words...)
	case 2:
		l.Header.Len = pick(r, wrong...)
	case 3:
		l.Header.Router = pick(r, words...)
	case 4:
		l.Header.Seq = pick(r, wrong...)
	case 5:
		l.Header.Age = pick(r, wrong...)
	case 6:
		l.Header.Sum = pick(r, wrong...)
	case 7:
		l.Border = !l.Border
	case 8:
		l.Boundary = !l.Boundary
	case 9:
		l.Links = append(l.Links, api.LSLink{Kind: pick(r, 1, 2, 3, 4), ID: pick(r, words...), Cost: 1})
	case 10:
		l.Attached = append(l.Attached, pick(r, words...))
	case 11:
		l.Cost = pick(r, wrong...)
	case 12:
		l.Second, l.Forward = !l.Second, api.Addr(pick(r, words...))
	case 13:
		l.Tag = pick(r, wrong...)
	}
	return l
}

// otherDB returns a database like db, of which some things are others.
func otherDB(r *rand.Rand, db []api.LSA) []api.LSA {
	db = slices.Clone(db)
	for range 1 + r.IntN(2) {
		if len(db) == 0 {
			return []api.LSA{anyLSA(r)}
		}
		i, j := r.IntN(len(db)), r.IntN(len(db))
		switch r.IntN(6) {
		case 0:
			db[i], db[j] = db[j], db[i]
		case 1:
			db[i] = db[j]
		case 2:
			db[i] = anyLSA(r)
		case 3:
			db = slices.Delete(db, i, i+1)
		case 4:
			db = slices.Insert(db, i, anyLSA(r))
		default:
			db[i] = damaged(r, db[i])
		}
	}
	return db
}

// anyKey returns a key that db may have.
func anyKey(r *rand.Rand, db []api.LSA) api.LSAKey {
	if len(db) == 0 || r.IntN(4) == 0 {
		return keyOf(damaged(r, anyLSA(r)).Header)
	}
	return keyOf(db[r.IntN(len(db))].Header)
}
