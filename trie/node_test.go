package trie

import (
	"testing"

	"routing/api"
	"routing/prefix"
)

func count(n *node) int {
	if n == nil {
		return 0
	}
	return 1 + count(n.kids[0]) + count(n.kids[1])
}

// The trie keeps no more nodes than its entries need, also after entries were dropped.
func TestNodes(t *testing.T) {
	x := New()
	var put []api.Prefix
	word := uint32(7)
	for range 500 {
		word = word*1664525 + 1013904223
		p, _ := prefix.Make(api.Addr(word), int(word>>8%33))
		put = append(put, p)
		x.Put(p, 1)
		if n := count(x.root); n >= 2*x.Len() {
			t.Fatalf("%d nodes for %d entries", n, x.Len())
		}
	}
	for _, p := range put {
		x.Drop(p)
		if n := count(x.root); n > 0 && n >= 2*x.Len() {
			t.Fatalf("%d nodes for %d entries", n, x.Len())
		}
	}
	if x.root != nil {
		t.Error("the empty trie has", count(x.root), "nodes")
	}
}
