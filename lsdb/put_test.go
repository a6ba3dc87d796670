package lsdb_test

import (
	"math/rand/v2"
	"slices"
	"testing"

	"routing/api"
	"routing/lsa"
	"routing/lsdb"
)

// checkPut compares Put with its definition.
func checkPut(t *testing.T, db []api.LSA, l api.LSA) {
	t.Helper()
	var want []api.LSA
	wanted := putError(db, l)
	if wanted == api.OK {
		want = put(db, l)
	}
	if got, e := lsdb.Put(db, l); e != wanted || !equal(got, want) {
		t.Fatalf("Put of %v into %d advertisements: %d advertisements, %v, not %d, %v", l, len(db), len(got), e, len(want), wanted)
	}
}

// P25.3
func TestPut(t *testing.T) {
	r := rand.New(rand.NewPCG(25, 3))
	found := map[api.Errno]int{}
	present := 0
	for i := range 10000 {
		db := anyDB(r, r.IntN(12))
		l := anyLSA(r)
		if i%3 == 0 {
			l = damaged(r, l)
		}
		if len(without(db, keyOf(l.Header))) < len(db) {
			present++
		}
		found[putError(db, l)]++
		checkPut(t, db, l)
	}
	for _, e := range []api.Errno{api.OK, api.ErrKind, api.ErrRange, api.ErrInvalid, api.ErrChecksum} {
		if found[e] < 50 {
			t.Error("too few advertisements with", e, found)
		}
	}
	if present < 500 {
		t.Error("too few advertisements that replace one:", present)
	}
}

// P25.3: every place in a database, before, between and at its keys.
func TestPutEverywhere(t *testing.T) {
	for n := range 10 {
		db := boundaries(n, 2)
		for id := range uint32(2*n + 2) {
			l := changed(boundary(id+1), func(l *api.LSA) { l.Cost = 99 })
			checkPut(t, db, sealed(l))
		}
	}
	// Each part of the key decides.
	for _, h := range []api.LSAHeader{
		{Type: 3, ID: 0x0a000000, Len: 8, Router: 4}, {Type: 3, ID: 0x0a000000, Len: 9, Router: 3}, {Type: 3, ID: 0x0a000000, Len: 9, Router: 5},
		{Type: 5, ID: 0x0a000000, Len: 9, Router: 4}, {Type: 3, ID: 0x0b000000, Len: 9, Router: 4}, {Type: 3, ID: 0x0a000000, Len: 9, Router: 4},
	} {
		h.Seq = 1
		middle := sealed(api.LSA{Header: api.LSAHeader{Type: 3, ID: 0x0a000000, Len: 9, Router: 4, Seq: 9}})
		checkPut(t, []api.LSA{middle}, sealed(api.LSA{Header: h}))
	}
}

// P25.3: instances are not compared, nor contents.
func TestPutOlder(t *testing.T) {
	newer := sealed(changed(boundary(5), func(l *api.LSA) { l.Header.Seq = 9 }))
	db := []api.LSA{boundary(4), newer, boundary(6)}
	for _, age := range ages {
		for _, seq := range []int{1, 8, 9, 10, maxSeq} {
			l := sealed(changed(newer, func(l *api.LSA) { l.Header.Seq, l.Header.Age, l.Cost = seq, age, seq%7 }))
			checkPut(t, db, l)
			if got, _ := lsdb.Put(db, l); len(got) != 3 || got[1].Header != l.Header || got[1].Cost != l.Cost {
				t.Error("not in its place", got)
			}
		}
	}
}

// P25.3: a database that is full has no room for another key.
func TestPutFull(t *testing.T) {
	db := boundaries(maxEntries, 2)
	for _, id := range []uint32{1, 2, 3, maxEntries, 2*maxEntries - 1, 2 * maxEntries, 2*maxEntries + 1} {
		l := boundary(id)
		wanted := api.ErrFull
		if id%2 == 0 {
			wanted = api.OK
		}
		if e := putError(db, l); e != wanted {
			t.Error("the definition itself:", e)
		}
		checkPut(t, db, l)
		checkPut(t, db[1:], l)
		checkPut(t, db[:maxEntries-1], l)
	}
	bad := boundary(1)
	bad.Header.Sum ^= 256
	if got, e := lsdb.Put(db, bad); len(got) != 0 || e != api.ErrChecksum {
		t.Error("not sealed, and no room:", len(got), e)
	}
	bad.Header.Age = maxAge + 1
	if got, e := lsdb.Put(db, bad); len(got) != 0 || e != api.ErrRange {
		t.Error("not valid, not sealed, and no room:", len(got), e)
	}
}

// P25.5, example 2
func TestCompare(t *testing.T) {
	r := rand.New(rand.NewPCG(25, 5))
	found := map[int]int{}
	for range 5000 {
		db := anyDB(r, r.IntN(20))
		h := anyLSA(r).Header
		if len(db) > 0 && r.IntN(2) == 0 {
			h = db[r.IntN(len(db))].Header
			h.Seq, h.Sum, h.Age = pick(r, h.Seq, 2), pick(r, h.Sum, h.Sum, 5), pick(r, ages...)
		}
		want := 1
		for _, x := range db {
			if keyOf(x.Header) == keyOf(h) {
				want = lsa.Compare(h, x.Header)
			}
		}
		found[want]++
		if c := lsdb.Compare(db, h); c != want {
			t.Fatalf("Compare(%v, %v) = %d, not %d", db, h, c, want)
		}
		if c := lsdb.Compare(nil, h); c != 1 {
			t.Fatalf("Compare of %v with nothing: %d", h, c)
		}
	}
	if len(found) != 3 || found[-1] < 300 || found[0] < 300 {
		t.Error("too few kinds of headers", found)
	}
}

// P25.5: headers with the keys of a database and those between them.
func TestCompareEverywhere(t *testing.T) {
	db := boundaries(50, 2)
	for id := range uint32(103) {
		h := boundary(id + 1).Header
		want := 1
		if id%2 == 1 && id < 100 {
			want = 0
		}
		if c := lsdb.Compare(db, h); c != want {
			t.Errorf("Compare of %v: %d, not %d", h, c, want)
		}
		h.Sum = 0
		if want == 0 {
			want = -1
		}
		if c := lsdb.Compare(db, h); c != want {
			t.Errorf("Compare of %v: %d, not %d", h, c, want)
		}
	}
}

// P25.7
func TestPutAndGet(t *testing.T) {
	r := rand.New(rand.NewPCG(25, 7))
	for range 3000 {
		db, l := anyDB(r, r.IntN(12)), anyLSA(r)
		k := keyOf(l.Header)
		next, e := lsdb.Put(db, l)
		if e != api.OK || lsdb.Check(next) != api.OK {
			t.Fatalf("Put(%v, %v) = %v, %v", db, l, next, e)
		}
		if x, ok := lsdb.Get(next, k); !ok || !equal([]api.LSA{x}, []api.LSA{l}) {
			t.Fatalf("after Put of %v: %v, %v", l, x, ok)
		}
		for _, other := range append(lsdb.Headers(db), anyLSA(r).Header) {
			before, was := lsdb.Get(db, keyOf(other))
			after, is := lsdb.Get(next, keyOf(other))
			if keyOf(other) != k && (was != is || !equal([]api.LSA{before}, []api.LSA{after})) {
				t.Fatalf("Put of %v changes %v", l, before)
			}
		}
		if x := lsdb.Drop(next, k); !equal(x, lsdb.Drop(db, k)) || lsdb.Check(x) != api.OK {
			t.Fatalf("after Put of %v into %v and Drop: %v", l, db, x)
		}
		if _, was := lsdb.Get(db, k); !was && !equal(lsdb.Drop(next, k), db) {
			t.Fatalf("Drop does not restore %v", db)
		}
	}
}

// orders returns the elements of l in every order.
func orders[T any](l []T) [][]T {
	if len(l) == 0 {
		return [][]T{nil}
	}
	var all [][]T
	for _, rest := range orders(l[1:]) {
		for i := range len(l) {
			all = append(all, slices.Insert(slices.Clone(rest), i, l[0]))
		}
	}
	return all
}

// P25.8
func TestNewestStays(t *testing.T) {
	r := rand.New(rand.NewPCG(25, 8))
	for range 30 {
		base := anyLSA(r)
		var l []api.LSA
		for _, seq := range []int{1, 2, 4, 1000, maxSeq} {
			l = append(l, sealed(changed(base, func(l *api.LSA) { l.Header.Seq, l.Header.Age = seq, pick(r, ages...) })))
		}
		for _, order := range orders(l) {
			db := lsdb.Drop(anyDB(r, 3), keyOf(base.Header))
			for _, x := range order {
				if lsdb.Compare(db, x.Header) == 1 {
					db, _ = lsdb.Put(db, x)
				}
			}
			if x, ok := lsdb.Get(db, keyOf(base.Header)); !ok || x.Header != l[4].Header {
				t.Fatal("not the newest one:", x, ok)
			}
		}
	}
}
