package lsdb_test

import (
	"math/rand/v2"
	"slices"
	"testing"

	"routing/api"
	"routing/lsdb"
)

// boundary returns a sealed advertisement of the boundary router id.
func boundary(id uint32) api.LSA {
	return sealed(api.LSA{Header: api.LSAHeader{Type: 4, ID: id, Router: 7, Seq: 1}, Cost: 3})
}

// boundaries returns a database with the boundary routers step, 2 * step and so on, n ones.
func boundaries(n int, step uint32) []api.LSA {
	var db []api.LSA
	for i := range uint32(n) {
		db = append(db, boundary((i+1)*step))
	}
	return db
}

// changed returns l with a change.
func changed(l api.LSA, change func(*api.LSA)) api.LSA {
	change(&l)
	return l
}

// P25.1
func TestCheck(t *testing.T) {
	a, b, c := boundary(1), boundary(2), boundary(3)
	noKind := changed(b, func(l *api.LSA) { l.Header.Type = 6 })
	noRouter := changed(b, func(l *api.LSA) { l.Header.Router = 0 })
	noID := changed(b, func(l *api.LSA) { l.Header.ID = 0 })
	loose := changed(b, func(l *api.LSA) { l.Header.Sum ^= 1 })
	second := sealed(changed(b, func(l *api.LSA) { l.Header.Seq = 2 }))
	other := sealed(changed(b, func(l *api.LSA) { l.Header.Router = 8 }))
	long := sealed(api.LSA{Header: api.LSAHeader{Type: 3, ID: 0x0a000000, Len: 16, Router: 1, Seq: 1}})
	short := sealed(api.LSA{Header: api.LSAHeader{Type: 3, ID: 0x0a000000, Len: 8, Router: 2, Seq: 1}})
	for i, x := range []struct {
		want api.Errno
		db   []api.LSA
	}{
		{api.OK, nil},
		{api.OK, []api.LSA{}},
		{api.OK, []api.LSA{a}},
		{api.OK, []api.LSA{a, b, c}},
		{api.OK, []api.LSA{b, other, c}},
		{api.OK, []api.LSA{short, long, a}},
		{api.ErrOrder, []api.LSA{long, short, a}},
		{api.ErrOrder, []api.LSA{a, short}},
		{api.ErrOrder, []api.LSA{other, b}},
		{api.ErrOrder, []api.LSA{b, b}},
		{api.ErrOrder, []api.LSA{b, second}},
		{api.ErrOrder, []api.LSA{a, c, b}},
		{api.ErrKind, []api.LSA{a, noKind, c}},
		{api.ErrRange, []api.LSA{noRouter}},
		{api.ErrInvalid, []api.LSA{a, noID}},
		{api.ErrChecksum, []api.LSA{a, loose, c}},
		{api.ErrChecksum, []api.LSA{c, loose}},
		{api.ErrKind, []api.LSA{changed(noKind, func(l *api.LSA) { l.Header.Sum = 0 })}},
		{api.ErrOrder, []api.LSA{b, a, noKind}},
		{api.ErrChecksum, []api.LSA{loose, noKind}},
		{api.ErrKind, []api.LSA{a, noKind, a, loose}},
	} {
		if e := checkError(x.db); e != x.want {
			t.Errorf("the definition itself: database %d has %v, not %v", i, e, x.want)
		}
		if e := lsdb.Check(x.db); e != x.want {
			t.Errorf("database %d: %v, not %v", i, e, x.want)
		}
	}
}

// P25.1: the greatest number of advertisements.
func TestCheckLimit(t *testing.T) {
	db := boundaries(maxEntries+1, 1)
	if e := lsdb.Check(db[:maxEntries]); e != api.OK {
		t.Error("as many as there may be:", e)
	}
	if e := lsdb.Check(db); e != api.ErrTooLong {
		t.Error("one more:", e)
	}
	db[0].Header.Type = 9
	if e := lsdb.Check(db); e != api.ErrTooLong {
		t.Error("another error before:", e)
	}
	if e := lsdb.Check(db[:maxEntries]); e != api.ErrKind {
		t.Error("only the other error:", e)
	}
}

// P25.1: databases that are damaged.
func TestCheckAny(t *testing.T) {
	r := rand.New(rand.NewPCG(25, 1))
	found := map[api.Errno]int{}
	for i := range 10000 {
		db := anyDB(r, r.IntN(8))
		if i%8 > 0 {
			db = otherDB(r, db)
		}
		want := checkError(db)
		found[want]++
		if e := lsdb.Check(db); e != want {
			t.Fatalf("Check(%v): %v, not %v", db, e, want)
		}
	}
	for _, e := range []api.Errno{api.OK, api.ErrKind, api.ErrRange, api.ErrInvalid, api.ErrChecksum, api.ErrOrder} {
		if found[e] < 50 {
			t.Error("too few databases with", e, found)
		}
	}
}

// P25.2: any databases.
func TestGetDropHeadersFrom(t *testing.T) {
	r := rand.New(rand.NewPCG(25, 2))
	several := 0
	for i := range 10000 {
		db := anyDB(r, r.IntN(8))
		if i%4 > 0 {
			db = otherDB(r, db)
		}
		k := anyKey(r, db)
		own := with(db, func(l api.LSA) bool { return keyOf(l.Header) == k })
		if len(own) > 1 {
			several++
		}
		l, ok := lsdb.Get(db, k)
		if ok != (len(own) > 0) || ok && !equal([]api.LSA{l}, own[:1]) || !ok && !equal([]api.LSA{l}, make([]api.LSA, 1)) {
			t.Fatalf("Get(%v, %v) = %v, %v", db, k, l, ok)
		}
		if rest := lsdb.Drop(db, k); !equal(rest, without(db, k)) {
			t.Fatalf("Drop(%v, %v) = %v", db, k, rest)
		}
		router := pick(r, 0, 1, 2, 3, k.Router)
		if l := lsdb.From(db, router); !equal(l, with(db, func(l api.LSA) bool { return l.Header.Router == router })) {
			t.Fatalf("From(%v, %d) = %v", db, router, l)
		}
		var headers []api.LSAHeader
		for _, l := range db {
			headers = append(headers, l.Header)
		}
		if l := lsdb.Headers(db); !slices.Equal(l, headers) {
			t.Fatalf("Headers(%v) = %v", db, l)
		}
	}
	if several < 200 {
		t.Error("too few databases with one key several times:", several)
	}
}

// P25.2: of several advertisements with one key, Get returns the first one and Drop none; the key of a header with
// nothing in it is a key.
func TestGetFirst(t *testing.T) {
	one, two := boundary(5), boundary(5)
	one.Cost, two.Cost = 1, 2
	db := []api.LSA{boundary(9), one, boundary(2), two, {}, {Cost: 4}}
	if l, ok := lsdb.Get(db, keyOf(one.Header)); !ok || l.Cost != 1 {
		t.Error("Get", l, ok)
	}
	if l, ok := lsdb.Get(db, keyOf(boundary(2).Header)); !ok || l.Cost != 3 {
		t.Error("Get", l, ok)
	}
	if l, ok := lsdb.Get(db, api.LSAKey{}); !ok || l.Cost != 0 {
		t.Error("Get of no key", l, ok)
	}
	if l := lsdb.Drop(db, keyOf(one.Header)); !equal(l, []api.LSA{db[0], db[2], db[4], db[5]}) {
		t.Error("Drop", l)
	}
	if l := lsdb.Drop(db, api.LSAKey{}); !equal(l, db[:4]) {
		t.Error("Drop of no key", l)
	}
	if l := lsdb.From(db, 0); !equal(l, db[4:]) {
		t.Error("From no router", l)
	}
}
