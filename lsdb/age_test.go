package lsdb_test

import (
	"math"
	"math/rand/v2"
	"slices"
	"testing"

	"routing/api"
	"routing/lsdb"
)

// advanced is the promise of Advance, second by second.
func advanced(db []api.LSA, seconds int) ([]api.LSA, []api.LSAKey) {
	var aged []api.LSAKey
	db = slices.Clone(db)
	for i := range db {
		h := &db[i].Header
		before := h.Age
		for n := 0; n < seconds && h.Age < maxAge; n++ {
			h.Age++
		}
		if before < maxAge && h.Age == maxAge {
			aged = append(aged, keyOf(*h))
		}
	}
	return db, aged
}

// P25.4
func TestAdvance(t *testing.T) {
	r := rand.New(rand.NewPCG(25, 4))
	spans := []int{math.MinInt, math.MinInt + 1, -1 << 32, -3600, -1, 0, 1, 2, 99, 100, 101, 899, 3499, 3500, 3599, 3600, 3601, 1 << 32, 1 << 40, math.MaxInt - 3600, math.MaxInt - 3599, math.MaxInt - 1, math.MaxInt}
	keys := 0
	for range 300 {
		db := anyDB(r, r.IntN(12))
		for _, seconds := range spans {
			want, wanted := advanced(db, seconds)
			got, aged := lsdb.Advance(db, seconds)
			if !equal(got, want) || !slices.Equal(aged, wanted) || lsdb.Check(got) != api.OK {
				t.Fatalf("Advance(%v, %d) = %v, %v", db, seconds, got, aged)
			}
			if !slices.IsSortedFunc(aged, order) {
				t.Fatal("the keys are not ascending", aged)
			}
			keys += len(aged)
		}
	}
	if keys < 1000 {
		t.Error("only", keys, "advertisements reached the greatest age")
	}
	if got, aged := lsdb.Advance(nil, 7); len(got) != 0 || len(aged) != 0 {
		t.Error("Advance of nothing", got, aged)
	}
}

// P25.4: every age by one second and by the rest of its time.
func TestAdvanceAges(t *testing.T) {
	for age := range maxAge + 1 {
		l := boundary(1)
		l.Header.Age = age
		for _, seconds := range []int{1, maxAge - 1 - age, maxAge - age, maxAge + 1 - age} {
			want := min(age+max(seconds, 0), maxAge)
			got, aged := lsdb.Advance([]api.LSA{l}, seconds)
			if len(got) != 1 || got[0].Header.Age != want || (len(aged) == 1) != (age < maxAge && want == maxAge) {
				t.Fatalf("age %d after %d seconds: %v, %v", age, seconds, got, aged)
			}
		}
	}
}

// P25.4, example 1
func TestAdvanceExample(t *testing.T) {
	l := boundary(1)
	l.Header.Age = 3500
	db := []api.LSA{l}
	for _, x := range []struct{ seconds, age, keys int }{{50, 3550, 0}, {100, 3600, 1}, {10, 3600, 0}} {
		next, aged := lsdb.Advance(db, x.seconds)
		if next[0].Header.Age != x.age || len(aged) != x.keys || x.keys == 1 && aged[0] != keyOf(l.Header) {
			t.Error("after", x.seconds, "seconds:", next, aged)
		}
		db = next
	}
}

// P25.9
func TestAdvanceInSteps(t *testing.T) {
	r := rand.New(rand.NewPCG(25, 9))
	for range 5000 {
		db := anyDB(r, r.IntN(12))
		a := pick(r, 0, 1, 100, 1799, 3600, 1<<40, r.IntN(3700))
		b := pick(r, 0, 1, 100, 1801, 3600, 1<<40, r.IntN(3700))
		first, early := lsdb.Advance(db, a)
		second, late := lsdb.Advance(first, b)
		whole, all := lsdb.Advance(db, a+b)
		both := slices.SortedFunc(slices.Values(slices.Concat(early, late)), order)
		if !equal(second, whole) || !slices.Equal(both, all) {
			t.Fatalf("%v after %d and %d seconds: %v, %v, not %v, %v", db, a, b, second, both, whole, all)
		}
		if lsdb.Check(first) != api.OK || lsdb.Check(second) != api.OK || !lsdb.Same(db, second) {
			t.Fatalf("%v is not the same after %d and %d seconds", db, a, b)
		}
	}
}
