package ispf

import (
	"slices"

	"routing/api"
)

// apply changes the edges and with them the distances, one change after the other. It returns how many distances each
// change altered, added up.
func (s *state) apply(changes ...api.Change) int {
	sum := 0
	for _, c := range changes {
		before := slices.Clone(s.tree.Dist)
		s.costs[c.From][c.To] = max(c.Cost, noEdge)
		s.stale[c.To] = true
		for _, node := range append(s.lose(c.To), c.To) {
			for from := range s.costs {
				s.offer(from, node)
			}
		}
		s.spread()
		sum += s.compare(before)
	}
	return sum
}

// lose takes their distances from the nodes to which no path leads at that distance any more, now that an edge to first
// has changed, and returns these nodes.
func (s *state) lose(first int) []int {
	var lost []int
	s.await(first)
	for {
		node, _, ok := s.queue.Pop()
		if !ok {
			return lost
		}
		if node == s.tree.Root || len(s.parents(node)) > 0 {
			continue
		}
		s.awaitChildren(node)
		s.tree.Dist[node] = unreached
		lost = append(lost, node)
	}
}

// awaitChildren puts the nodes into the queue whose parent a node is.
func (s *state) awaitChildren(node int) {
	for to := range s.costs {
		if s.tight(node, to) {
			s.await(to)
		}
	}
}

// offer gives a node the distance over an edge from another node, if there is one and the distance is less than its
// own, and puts it into the queue.
func (s *state) offer(from, to int) {
	cost, dist := s.costs[from][to], s.tree.Dist[from]
	if cost == noEdge || dist == unreached {
		return
	}
	if old := s.tree.Dist[to]; old == unreached || dist+cost < old {
		s.tree.Dist[to] = dist + cost
		s.await(to)
	}
}

// spread passes the distances of the nodes in the queue on, until none becomes less.
func (s *state) spread() {
	for {
		node, _, ok := s.queue.Pop()
		if !ok {
			return
		}
		for to := range s.costs {
			s.offer(node, to)
		}
	}
}

// compare returns how many distances are not those before, and marks the nodes whose parents depend on them.
func (s *state) compare(before []int) int {
	altered := 0
	for node, dist := range s.tree.Dist {
		if dist == before[node] {
			continue
		}
		altered++
		s.stale[node] = true
		for to, cost := range s.costs[node] {
			s.stale[to] = s.stale[to] || cost != noEdge
		}
	}
	return altered
}
