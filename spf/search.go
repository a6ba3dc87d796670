package spf

import (
	"slices"

	"routing/api"
	"routing/heap"
)

// search returns the tree of a router of a valid graph.
func search(g api.Graph, root int) api.Tree {
	t := start(g, root)
	// merge passes the first hops of a node on to one that follows it.
	merge := func(from, to int) {
		if from == root {
			t.Hops[to] = insert(t.Hops[to], to)
		}
		for _, hop := range t.Hops[from] {
			// Behind a network next to the root, the first router is the one that follows.
			if hop >= g.Routers {
				hop = to
			}
			t.Hops[to] = insert(t.Hops[to], hop)
		}
	}
	edges := leaving(g)
	queue := heap.New(len(t.Dist))
	queue.Set(root, 0)
search:
	for {
		node, _, ok := queue.Pop()
		if !ok {
			break search
		}
		for _, e := range edges[node] {
			dist, old := t.Dist[node]+e.Cost, t.Dist[e.To]
			if old >= 0 && old < dist {
				continue
			}
			if old != dist {
				t.Dist[e.To], t.Hops[e.To], t.Parents[e.To] = dist, nil, nil
				queue.Set(e.To, turn(g, e.To, dist))
			}
			t.Parents[e.To] = insert(t.Parents[e.To], node)
			merge(node, e.To)
		}
	}
	return t
}

// start returns a tree in which only the root is reached.
func start(g api.Graph, root int) api.Tree {
	nodes := g.Routers + g.Nets
	t := api.Tree{
		Root:    root,
		Dist:    slices.Repeat([]int{-1}, nodes),
		Hops:    make([][]int, nodes),
		Parents: make([][]int, nodes),
	}
	t.Dist[root] = 0
	return t
}

// leaving returns for each node of a valid graph the edges that begin at it. They stand one after the other in g.
func leaving(g api.Graph) [][]api.Edge {
	edges := make([][]api.Edge, g.Routers+g.Nets)
	for i, e := range g.Edges {
		edges[e.From] = g.Edges[i-len(edges[e.From]) : i+1]
	}
	return edges
}

// turn is the key of a node in the queue. A network comes before the routers at its distance because it can be a
// parent of them: the first hops of a node are complete when they are passed on.
func turn(g api.Graph, node, dist int) int {
	if node < g.Routers {
		return 2*dist + 1
	}
	return 2 * dist
}

// insert puts a node into an ascending list, unless it is there.
func insert(nodes []int, node int) []int {
	place, found := slices.BinarySearch(nodes, node)
	if found {
		return nodes
	}
	return slices.Insert(nodes, place, node)
}
