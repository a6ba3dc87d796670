package stride

import (
	"iter"

	"routing/api"
	"routing/bits"
)

// lastDigits are the digits with which an address can end.
const lastDigits = 1 | 1<<16 | 1<<32 | 1<<48

// Check reports whether c is well formed.
func Check(c api.Compressed) api.Errno {
	if len(c.Nodes) == 0 {
		return api.ErrTruncated
	}
	visited, known, leaves := 0, 1, 0
	for depth, n := range nodes(c) {
		end := leaves + bits.Ones(n.Leaf)
		if visited == known || n.Nodes != known || n.First != leaves || end > len(c.Leaves) {
			return api.ErrInvalid
		}
		if !digitsFit(n, depth) || !areRuns(c.Leaves[leaves:end]) {
			return api.ErrInvalid
		}
		visited, known, leaves = visited+1, known+bits.Ones(n.Inner), end
	}
	if known != len(c.Nodes) || leaves != len(c.Leaves) {
		return api.ErrInvalid
	}
	return api.OK
}

// nodes visits the nodes of c in order, with their depths, which are right up to the first node whose number of the
// first node below is wrong.
func nodes(c api.Compressed) iter.Seq2[int, api.CompressedNode] {
	return func(yield func(int, api.CompressedNode) bool) {
		depth, end := 0, 1
		for k, n := range c.Nodes {
			if k == end {
				// The nodes below this one are the first ones of the next depth.
				depth, end = depth+1, n.Nodes
			}
			if !yield(depth, n) {
				return
			}
		}
	}
}

// digitsFit reports whether a well-formed table can have a node at this depth whose inner digits and whose digits
// with the Leaf bit are those of n.
func digitsFit(n api.CompressedNode, depth int) bool {
	outer := ^n.Inner
	first := outer & -outer
	if n.Leaf&n.Inner != 0 || n.Leaf&first != first {
		return false
	}
	if depth == lastDepth && (n.Inner != 0 || n.Leaf&^lastDigits != 0) {
		return false
	}
	// Only at the root may all lookups agree.
	return depth == 0 || n.Inner != 0 || bits.Ones(n.Leaf) > 1
}

// areRuns reports whether l can be the values of the runs of leaves of a node.
func areRuns(l []int) bool {
	for i, value := range l {
		if value < noRoute || i > 0 && value == l[i-1] {
			return false
		}
	}
	return true
}
