package lsdb

import (
	"sort"

	"routing/api"
	"routing/lsa"
)

// searcher looks for a key in a database.
type searcher struct {
	db  []api.LSA
	key api.LSAKey
}

// found reports whether l has the key.
func (s searcher) found(l api.LSA) bool {
	return keyOf(l) == s.key
}

// reached reports whether the key is not behind the advertisement at position i.
func (s searcher) reached(i int) bool {
	return lsa.CompareKeys(keyOf(s.db[i]), s.key) >= 0
}

// place returns the position of a key in a valid database, or the one at which it would have to be inserted, and whether
// it is there.
func place(db []api.LSA, k api.LSAKey) (int, bool) {
	s := searcher{db, k}
	at := sort.Search(len(db), s.reached)
	return at, at < len(db) && s.found(db[at])
}
