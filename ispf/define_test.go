package ispf_test

import (
	"math/rand/v2"
	"slices"
	"testing"

	"routing/api"
	"routing/graph"
	"routing/spf"
)

// anyEdge returns an edge that is allowed in a graph with several routers.
func anyEdge(r *rand.Rand, routers, nets, dear int) api.Edge {
	for {
		e := api.Edge{From: r.IntN(routers + nets), To: r.IntN(routers + nets)}
		if e.From < routers {
			e.Cost = 1 + r.IntN(dear)
		}
		if e.From != e.To && (e.From < routers || e.To < routers) {
			return e
		}
	}
}

// anyGraph returns a valid graph with about so many edges, of costs from 1 to dear.
func anyGraph(r *rand.Rand, routers, nets, edges, dear int) api.Graph {
	var l []api.Edge
	for range edges {
		l = append(l, anyEdge(r, routers, nets, dear))
	}
	g, _ := graph.Of(routers, nets, l...)
	return g
}

// smallGraph returns a valid graph with few nodes and many paths of equal costs.
func smallGraph(r *rand.Rand) api.Graph {
	routers, nets := 2+r.IntN(5), r.IntN(4)
	return anyGraph(r, routers, nets, r.IntN(3*(routers+nets)), 1+r.IntN(4))
}

// anyChange returns a change that can be applied to a graph that is not full.
func anyChange(r *rand.Rand, g api.Graph, dear int) api.Change {
	if len(g.Edges) == 0 || r.IntN(3) == 0 {
		return api.Change(anyEdge(r, g.Routers, g.Nets, dear))
	}
	c := api.Change(g.Edges[r.IntN(len(g.Edges))])
	switch {
	case r.IntN(2) == 0:
		c.Cost = -1 - r.IntN(3)
	case c.From < g.Routers:
		c.Cost = 1 + r.IntN(dear)
	}
	return c
}

// anyChanges returns changes that can be applied one after the other.
func anyChanges(r *rand.Rand, g api.Graph, count, dear int) []api.Change {
	var l []api.Change
	for range count {
		c := anyChange(r, g, dear)
		if h, err := graph.Apply(g, c); err == api.OK {
			g, l = h, append(l, c)
		}
	}
	return l
}

// run returns the tree of a root that Run accepts.
func run(t *testing.T, g api.Graph, root int) api.Tree {
	t.Helper()
	tree, err := spf.Run(g, root)
	if err != api.OK {
		t.Fatalf("Run(%v, %d) = %v", g, root, err)
	}
	return tree
}

func sameGraph(a, b api.Graph) bool {
	return a.Routers == b.Routers && a.Nets == b.Nets && slices.Equal(a.Edges, b.Edges)
}

// different returns how many elements of two lists of the same length are different.
func different(a, b []int) int {
	count := 0
	for i := range a {
		if a[i] != b[i] {
			count++
		}
	}
	return count
}

// outcome is what Update returns.
type outcome struct {
	graph   api.Graph
	tree    api.Tree
	altered int
	err     api.Errno
}

// updated is the promise of Update for a tree that Run returned: a tree from scratch after every change.
func updated(t *testing.T, g api.Graph, tree api.Tree, changes []api.Change) outcome {
	t.Helper()
	if _, err := graph.Apply(g, changes...); err != api.OK {
		return outcome{err: err}
	}
	altered := 0
	for _, c := range changes {
		g, _ = graph.Apply(g, c)
		after := run(t, g, tree.Root)
		altered += different(tree.Dist, after.Dist)
		tree = after
	}
	return outcome{graph: g, tree: tree, altered: altered}
}

func (a outcome) same(b outcome) bool {
	return sameGraph(a.graph, b.graph) && spf.Same(a.tree, b.tree) && a.altered == b.altered && a.err == b.err
}
