package spf

import (
	"slices"

	"routing/api"
)

// Path returns the lexicographically least shortest path from the root to a node.
func Path(t api.Tree, to int) []int {
	if to < 0 || to >= len(t.Dist) || t.Dist[to] < 0 {
		return nil
	}
	next := onward(t, to)
	path := []int{t.Root}
	for node := t.Root; node != to; {
		choice := next[node]
		// A tree that Run did not return may have no way to the node, or one that comes back to a node.
		if len(choice) == 0 {
			return nil
		}
		delete(next, node)
		node = slices.Min(choice)
		path = append(path, node)
	}
	return path
}

// onward returns for each node on a shortest path to a node those that can follow it on such a path.
func onward(t api.Tree, to int) map[int][]int {
	next := map[int][]int{}
	for work := []int{to}; len(work) > 0; work = work[1:] {
		node := work[0]
		if node < 0 || node >= len(t.Parents) {
			continue
		}
		for _, parent := range t.Parents[node] {
			if len(next[parent]) == 0 {
				work = append(work, parent)
			}
			next[parent] = append(next[parent], node)
		}
	}
	return next
}
