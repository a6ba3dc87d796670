package trie

import (
	"routing/api"
	"routing/bits"
	"routing/prefix"
)

// node is the root of the tree of the entries whose prefixes its own one covers. A node without an entry of its own
// has two kids, so that there are fewer than two nodes for each entry.
type node struct {
	entry  api.Entry
	stored bool     // entry is in the trie, otherwise only its prefix counts
	kids   [2]*node // by the first bit after the prefix
}

// covers reports whether there is a node and its prefix covers p.
func (n *node) covers(p api.Prefix) bool {
	return n != nil && prefix.Covers(n.entry.Prefix, p)
}

// toward returns the place of the kid on whose side p lies.
func (n *node) toward(p api.Prefix) **node {
	return &n.kids[bits.At(uint32(p.Addr), n.entry.Prefix.Len)]
}

// put returns the tree with the entry, whose prefix is valid, and whether there was none for its prefix.
func (n *node) put(entry api.Entry) (*node, bool) {
	if n == nil {
		return &node{entry: entry, stored: true}, true
	}
	if n.entry.Prefix == entry.Prefix {
		added := !n.stored
		n.entry, n.stored = entry, true
		return n, added
	}
	if !n.covers(entry.Prefix) {
		return n.below(entry.Prefix).put(entry)
	}
	kid := n.toward(entry.Prefix)
	changed, added := (*kid).put(entry)
	*kid = changed
	return n, added
}

// below returns a node for the longest prefix that covers p and that of n, with n as its kid; n does not cover p.
func (n *node) below(p api.Prefix) *node {
	own := n.entry.Prefix
	shared, _ := prefix.Make(p.Addr, min(p.Len, bits.Common(uint32(p.Addr), uint32(own.Addr))))
	fork := &node{entry: api.Entry{Prefix: shared}}
	*fork.toward(own) = n
	return fork
}

// drop returns the tree without the entry for p, and whether there was one.
func (n *node) drop(p api.Prefix) (*node, bool) {
	if !n.covers(p) {
		return n, false
	}
	if n.entry.Prefix == p {
		dropped := n.stored
		n.entry.Value, n.stored = 0, false
		return n.needed(), dropped
	}
	kid := n.toward(p)
	changed, dropped := (*kid).drop(p)
	*kid = changed
	return n.needed(), dropped
}

// needed returns n, or what remains of it if it has neither an entry nor two kids.
func (n *node) needed() *node {
	low, high := n.kids[0], n.kids[1]
	if n.stored || low != nil && high != nil {
		return n
	}
	if low != nil {
		return low
	}
	return high
}

// visitUnder passes the entries whose prefixes p covers to visit, ascending.
func (n *node) visitUnder(p api.Prefix, visit func(api.Entry)) {
	if n == nil || !prefix.Overlap(n.entry.Prefix, p) {
		return
	}
	if n.stored && prefix.Covers(p, n.entry.Prefix) {
		visit(n.entry)
	}
	for _, kid := range n.kids {
		kid.visitUnder(p, visit)
	}
}
