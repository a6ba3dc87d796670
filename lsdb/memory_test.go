package lsdb_test

import (
	"math"
	"math/rand/v2"
	"slices"
	"testing"

	"routing/api"
	"routing/lsdb"
)

// roomy returns a list like l with spare elements behind its end.
func roomy[T any](l []T, spare T) []T { return append(slices.Clone(l), spare, spare)[:len(l)] }

// spare is an advertisement behind the end of a list.
func spare() api.LSA {
	return api.LSA{Tag: 77, Links: []api.LSLink{{Kind: 77}}, Attached: []uint32{77}}
}

// roomyDB returns a database like db, all lists of which have spare elements.
func roomyDB(db []api.LSA) []api.LSA {
	db = roomy(db, spare())
	for i := range db {
		db[i] = roomyLSA(db[i])
	}
	return db
}

func roomyLSA(l api.LSA) api.LSA {
	l.Links, l.Attached = roomy(l.Links, api.LSLink{Kind: 77}), roomy(l.Attached, 77)
	return l
}

// whole returns copies of all advertisements of db, with what lies behind the ends of all lists.
func whole(db []api.LSA) []api.LSA {
	all := slices.Clone(db[:cap(db)])
	for i, l := range all {
		all[i].Links, all[i].Attached = slices.Clone(l.Links[:cap(l.Links)]), slices.Clone(l.Attached[:cap(l.Attached)])
	}
	return all
}

// wipe changes everything in db, also behind the ends of its lists.
func wipe(db []api.LSA) {
	for i, l := range db[:cap(db)] {
		for j := range l.Links[:cap(l.Links)] {
			l.Links[:cap(l.Links)][j].Cost = -9
		}
		for j := range l.Attached[:cap(l.Attached)] {
			l.Attached[:cap(l.Attached)][j] = 99
		}
		db[:cap(db)][i] = api.LSA{Cost: -9}
	}
}

// results are what the functions return for a database, an advertisement and a key.
func results(db []api.LSA, l api.LSA, k api.LSAKey) [][]api.LSA {
	one, _ := lsdb.Get(db, k)
	next, _ := lsdb.Put(db, l)
	older, _ := lsdb.Advance(db, 100)
	return [][]api.LSA{{one}, next, lsdb.Drop(db, k), older, lsdb.From(db, k.Router), lsdb.Drop(db, api.LSAKey{}), lsdb.From(db, l.Header.Router)}
}

// R5: no function changes its arguments or what lies behind their ends.
func TestArgumentsUnchanged(t *testing.T) {
	r := rand.New(rand.NewPCG(25, 15))
	for i := range 2000 {
		db := anyDB(r, r.IntN(8))
		if i%2 == 0 {
			db = otherDB(r, db)
		}
		db = roomyDB(db)
		l, k := roomyLSA(anyLSA(r)), anyKey(r, db)
		before, own := whole(db), whole([]api.LSA{l})
		results(db, l, k)
		lsdb.Check(db)
		lsdb.Headers(db)
		lsdb.Compare(db, l.Header)
		lsdb.Same(db, db)
		if !equal(whole(db), before) || !equal(whole([]api.LSA{l}), own) {
			t.Fatal("changed", db, l)
		}
	}
}

// R5: results share no memory with arguments or with each other.
func TestResultsAreNew(t *testing.T) {
	r := rand.New(rand.NewPCG(25, 16))
	for range 2000 {
		db := anyDB(r, r.IntN(8))
		l, k := anyLSA(r), anyKey(r, db)
		got, want := results(roomyDB(db), l, k), results(db, l, k)
		given := roomyDB(db)
		again := results(given, l, k)
		headers := lsdb.Headers(given)
		wipe(given)
		for i := range got {
			if !equal(again[i], want[i]) {
				t.Fatal("a result changes with the database", again[i])
			}
		}
		for i := range got {
			wipe(got[i])
			for j := i + 1; j < len(got); j++ {
				if !equal(got[j], want[j]) {
					t.Fatal("two results share memory")
				}
			}
		}
		if !slices.Equal(headers, lsdb.Headers(db)) {
			t.Fatal("the headers change with the database")
		}
		own := roomyLSA(l)
		next, _ := lsdb.Put(db, own)
		wipe([]api.LSA{own})
		if !equal(next, want[1]) {
			t.Fatal("the database has the lists of the advertisement")
		}
	}
}

// R5: no two advertisements of one result share lists, even if those of the argument do.
func TestResultsAreApart(t *testing.T) {
	shared := sealed(api.LSA{Header: api.LSAHeader{Type: 2, ID: 1, Len: 24, Router: 3, Seq: 1}, Attached: []uint32{3, 4}})
	other := sealed(changed(shared, func(l *api.LSA) { l.Header.ID = 2 }))
	other.Attached = shared.Attached
	third := sealed(changed(shared, func(l *api.LSA) { l.Header.ID = 3 }))
	third.Attached = shared.Attached
	for i, l := range results([]api.LSA{shared, other}, third, keyOf(shared.Header)) {
		for j := range l {
			l[j].Attached[0] = 50 + uint32(j)
		}
		for j := range l {
			if l[j].Attached[0] != 50+uint32(j) {
				t.Errorf("result %d: two advertisements share a list", i)
			}
		}
	}
}

// R1: functions for valid databases return for all others as well.
func TestAnyArguments(t *testing.T) {
	r := rand.New(rand.NewPCG(25, 17))
	for range 5000 {
		db := otherDB(r, otherDB(r, anyDB(r, r.IntN(8))))
		for i := range db {
			if r.IntN(2) == 0 {
				db[i].Header.Age = pick(r, wrong...)
			}
		}
		l := anyLSA(r)
		lsdb.Put(db, l)
		lsdb.Put(append(db, boundaries(3, 1)...), damaged(r, l))
		lsdb.Compare(db, damaged(r, l).Header)
		lsdb.Advance(db, pick(r, -1, 0, 1, 3600, math.MinInt, math.MaxInt))
	}
	long := slices.Repeat([]api.LSA{boundary(1)}, 3*maxEntries)
	lsdb.Put(long, boundary(1))
	if got, e := lsdb.Put(long, boundary(2)); len(got) != 0 || e != api.ErrFull {
		t.Error("Put into a database that is too long", len(got), e)
	}
}
