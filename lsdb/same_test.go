package lsdb_test

import (
	"math/rand/v2"
	"slices"
	"testing"

	"routing/api"
	"routing/lsdb"
)

// young returns a database like db whose advertisements have the age 0.
func young(db []api.LSA) []api.LSA {
	db = slices.Clone(db)
	for i := range db {
		db[i].Header.Age = 0
	}
	return db
}

// P25.6: each field but the age counts.
func TestSame(t *testing.T) {
	made := func() []api.LSA {
		l := boundary(5)
		l.Links, l.Attached = []api.LSLink{{Kind: 1}, {Kind: 2}}, []uint32{3, 4}
		return []api.LSA{boundary(9), l, boundary(2)}
	}
	for i, change := range []func(*api.LSA){
		func(*api.LSA) {},
		func(l *api.LSA) { l.Header.Age = 77 },
		func(l *api.LSA) { l.Header.Age = -1 },
		func(l *api.LSA) { l.Header.Seq++ },
		func(l *api.LSA) { l.Header.Sum++ },
		func(l *api.LSA) { l.Header.Type++ },
		func(l *api.LSA) { l.Header.ID++ },
		func(l *api.LSA) { l.Header.Len++ },
		func(l *api.LSA) { l.Header.Router++ },
		func(l *api.LSA) { l.Border = true },
		func(l *api.LSA) { l.Boundary = true },
		func(l *api.LSA) { l.Links[1].Cost++ },
		func(l *api.LSA) { l.Links = l.Links[:1] },
		func(l *api.LSA) { l.Attached[0]++ },
		func(l *api.LSA) { l.Attached = nil },
		func(l *api.LSA) { l.Cost++ },
		func(l *api.LSA) { l.Second = true },
		func(l *api.LSA) { l.Forward++ },
		func(l *api.LSA) { l.Tag++ },
	} {
		a, b := made(), made()
		change(&b[1])
		if is := lsdb.Same(a, b); is != (i < 3) {
			t.Errorf("change %d: %v", i, is)
		}
		if lsdb.Same(a, b) != lsdb.Same(b, a) {
			t.Errorf("change %d: not symmetric", i)
		}
	}
	a := made()
	for i, b := range [][]api.LSA{a[:2], a[1:], nil, append(made(), api.LSA{}), {a[0], a[2], a[1]}, {a[0], a[1], a[1]}} {
		if lsdb.Same(a, b) || lsdb.Same(b, a) {
			t.Error("another list of advertisements:", i)
		}
	}
	if !lsdb.Same(nil, []api.LSA{}) || !lsdb.Same([]api.LSA{{}}, []api.LSA{{Links: []api.LSLink{}, Attached: []uint32{}}}) {
		t.Error("lists that are nil and empty ones")
	}
}

// P25.6: any databases.
func TestSameAny(t *testing.T) {
	r := rand.New(rand.NewPCG(25, 6))
	found := map[bool]int{}
	for range 10000 {
		a := anyDB(r, r.IntN(6))
		b := otherDB(r, a)
		if r.IntN(3) == 0 {
			a, b = b, young(b)
		}
		want := equal(young(a), young(b))
		found[want]++
		if is := lsdb.Same(a, b); is != want {
			t.Fatalf("Same(%v, %v) = %v", a, b, is)
		}
	}
	if found[true] < 1000 || found[false] < 1000 {
		t.Error("too few pairs", found)
	}
}
