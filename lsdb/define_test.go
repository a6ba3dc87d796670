package lsdb_test

import (
	"reflect"
	"slices"

	"routing/api"
	"routing/lsa"
)

const (
	maxEntries = 2000
	maxAge     = 3600
	maxSeq     = 1<<31 - 1
)

func keyOf(h api.LSAHeader) api.LSAKey {
	return api.LSAKey{Type: h.Type, ID: h.ID, Len: h.Len, Router: h.Router}
}

// order compares keys: it is below 0 if a is less than b.
func order(a, b api.LSAKey) int {
	return slices.Compare([]int{a.Type, int(a.ID), a.Len, int(a.Router)}, []int{b.Type, int(b.ID), b.Len, int(b.Router)})
}

// sealed returns l with the sum that seals it.
func sealed(l api.LSA) api.LSA {
	s, e := lsa.Seal(l)
	if e != api.OK {
		panic(e)
	}
	return s
}

// entryError is the first error of an advertisement in a database, apart from the order.
func entryError(l api.LSA) api.Errno {
	if e := lsa.Check(l); e != api.OK {
		return e
	}
	if sealed(l).Header.Sum != l.Header.Sum {
		return api.ErrChecksum
	}
	return api.OK
}

// checkError is the promise of Check.
func checkError(db []api.LSA) api.Errno {
	if len(db) > maxEntries {
		return api.ErrTooLong
	}
	for i, l := range db {
		if e := entryError(l); e != api.OK {
			return e
		}
		if i > 0 && order(keyOf(db[i-1].Header), keyOf(l.Header)) >= 0 {
			return api.ErrOrder
		}
	}
	return api.OK
}

// putError is the promise of Put for a database that is valid.
func putError(db []api.LSA, l api.LSA) api.Errno {
	if e := entryError(l); e != api.OK {
		return e
	}
	if len(without(db, keyOf(l.Header))) == maxEntries {
		return api.ErrFull
	}
	return api.OK
}

// put is the database with l that Put promises.
func put(db []api.LSA, l api.LSA) []api.LSA {
	return sorted(append(without(db, keyOf(l.Header)), l))
}

// with returns the advertisements for which a condition holds.
func with(db []api.LSA, holds func(api.LSA) bool) []api.LSA {
	var l []api.LSA
	for _, x := range db {
		if holds(x) {
			l = append(l, x)
		}
	}
	return l
}

func without(db []api.LSA, k api.LSAKey) []api.LSA {
	return with(db, func(l api.LSA) bool { return keyOf(l.Header) != k })
}

func sorted(db []api.LSA) []api.LSA {
	return slices.SortedFunc(slices.Values(db), func(a, b api.LSA) int { return order(keyOf(a.Header), keyOf(b.Header)) })
}

// equal reports whether two databases are equal, whether their empty lists are nil or not.
func equal(a, b []api.LSA) bool { return reflect.DeepEqual(bare(a), bare(b)) }

func bare(db []api.LSA) []api.LSA {
	var l []api.LSA
	for _, x := range db {
		x.Links, x.Attached = orNil(x.Links), orNil(x.Attached)
		l = append(l, x)
	}
	return l
}

func orNil[T any](l []T) []T {
	if len(l) == 0 {
		return nil
	}
	return l
}
