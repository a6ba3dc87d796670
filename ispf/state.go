package ispf

import (
	"slices"

	"routing/api"
	"routing/heap"
)

const (
	noEdge    = -1 // in place of a cost
	unreached = -1 // in place of a distance
)

// state is a graph and its tree while changes are applied. The distances follow each change; the parents and hops
// follow only at the end, when the distances are known.
type state struct {
	routers int
	costs   [][]int // of the edges, by From and To; noEdge where there is none
	tree    api.Tree
	stale   []bool     // nodes whose parents may be others than those in the tree
	queue   *heap.Heap // nodes to be visited; empty between the steps
}

// begin returns the state of a graph with its tree, neither of which it shares.
func begin(g api.Graph, t api.Tree) *state {
	t.Dist, t.Hops, t.Parents = slices.Clone(t.Dist), copied(t.Hops), copied(t.Parents)
	return &state{
		routers: g.Routers,
		costs:   costs(g),
		tree:    t,
		stale:   make([]bool, len(t.Dist)),
		queue:   heap.New(len(t.Dist)),
	}
}

// costs returns the costs of the edges of a valid graph by From and To.
func costs(g api.Graph) [][]int {
	nodes := g.Routers + g.Nets
	rows := make([][]int, nodes)
	for from := range rows {
		rows[from] = slices.Repeat([]int{noEdge}, nodes)
	}
	for _, e := range g.Edges {
		rows[e.From][e.To] = e.Cost
	}
	return rows
}

// copied returns a copy of lists.
func copied(rows [][]int) [][]int {
	copies := make([][]int, len(rows))
	for i, row := range rows {
		copies[i] = slices.Clone(row)
	}
	return copies
}

// await puts a node into the queue, in which the least distance comes first. A router may be visited before a network
// at its distance that is its parent; if it depends on what becomes of that network, it is put into the queue again.
func (s *state) await(node int) {
	s.queue.Set(node, s.tree.Dist[node])
}

// tight reports whether an edge leads from a node to another one whose distance is the one over that edge.
func (s *state) tight(from, to int) bool {
	cost, dist := s.costs[from][to], s.tree.Dist[from]
	return cost != noEdge && dist != unreached && dist+cost == s.tree.Dist[to]
}
