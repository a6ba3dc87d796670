package ispf

import "slices"

// refresh computes the parents and hops of the stale nodes anew, and of those nodes to which other hops are passed on.
func (s *state) refresh() {
	for node, stale := range s.stale {
		if stale {
			s.await(node)
		}
	}
	for {
		node, _, ok := s.queue.Pop()
		if !ok {
			return
		}
		before := s.tree.Hops[node]
		s.tree.Parents[node] = s.parents(node)
		s.tree.Hops[node] = s.hops(node)
		if !slices.Equal(s.tree.Hops[node], before) {
			s.awaitChildren(node)
		}
	}
}

// parents returns the nodes before a node on shortest paths, ascending.
func (s *state) parents(node int) []int {
	var parents []int
	for from := range s.costs {
		if s.tight(from, node) {
			parents = append(parents, from)
		}
	}
	return parents
}

// hops returns the first hops of a node, ascending, from those of its parents.
func (s *state) hops(node int) []int {
	var hops []int
	for _, parent := range s.tree.Parents[node] {
		if parent == s.tree.Root {
			hops = append(hops, node)
		}
		for _, hop := range s.tree.Hops[parent] {
			// A network is a first hop only of itself; the first router behind it is this node.
			if hop >= s.routers {
				hop = node
			}
			hops = append(hops, hop)
		}
	}
	slices.Sort(hops)
	return slices.Compact(hops)
}
