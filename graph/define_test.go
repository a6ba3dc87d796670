package graph_test

import (
	"math/rand/v2"
	"slices"
	"testing"

	"routing/api"
)

// nodes is the number of nodes, as far as it is one.
func nodes(g api.Graph) float64 {
	return float64(g.Routers) + float64(g.Nets)
}

// isNode is the definition of nodes.
func isNode(g api.Graph, node int) bool {
	return node >= 0 && float64(node) < nodes(g)
}

// isAllowed is the definition of allowed edges.
func isAllowed(g api.Graph, e api.Edge) bool {
	if !isNode(g, e.From) || !isNode(g, e.To) || e.From == e.To {
		return false
	}
	if e.From < g.Routers {
		return e.Cost >= 1 && e.Cost <= 65535
	}
	return e.To < g.Routers && e.Cost == 0
}

func less(a, b api.Edge) bool {
	return a.From < b.From || a.From == b.From && a.To < b.To
}

// check is the promise of Check.
func check(g api.Graph) api.Errno {
	if g.Routers < 0 || g.Nets < 0 {
		return api.ErrRange
	}
	if nodes(g) > 128 || len(g.Edges) > 1024 {
		return api.ErrTooLong
	}
	for i, e := range g.Edges {
		switch {
		case !isNode(g, e.From) || !isNode(g, e.To):
			return api.ErrRange
		case !isAllowed(g, e):
			return api.ErrInvalid
		case i > 0 && !less(g.Edges[i-1], e):
			return api.ErrOrder
		}
	}
	return api.OK
}

type pair struct{ from, to int }

// listed returns the edges with these costs, in order.
func listed(costs map[pair]int) []api.Edge {
	var l []api.Edge
	for p, c := range costs {
		l = append(l, api.Edge{From: p.from, To: p.to, Cost: c})
	}
	slices.SortFunc(l, func(a, b api.Edge) int {
		if less(a, b) {
			return -1
		}
		return 1
	})
	return l
}

// costs returns the costs of the edges of a valid graph.
func costs(g api.Graph) map[pair]int {
	m := map[pair]int{}
	for _, e := range g.Edges {
		m[pair{e.From, e.To}] = e.Cost
	}
	return m
}

// changed is the promise of Apply.
func changed(g api.Graph, changes []api.Change) (api.Graph, api.Errno) {
	if err := check(g); err != api.OK {
		return api.Graph{}, err
	}
	m := costs(g)
	for _, c := range changes {
		p := pair{c.From, c.To}
		_, there := m[p]
		switch {
		case !isNode(g, c.From) || !isNode(g, c.To):
			return api.Graph{}, api.ErrRange
		case c.Cost < 0 && !there:
			return api.Graph{}, api.ErrNotFound
		case c.Cost < 0:
			delete(m, p)
		case !isAllowed(g, api.Edge{From: c.From, To: c.To, Cost: c.Cost}):
			return api.Graph{}, api.ErrInvalid
		case !there && len(m) >= 1024:
			return api.Graph{}, api.ErrTooLong
		default:
			m[p] = c.Cost
		}
	}
	return api.Graph{Routers: g.Routers, Nets: g.Nets, Edges: listed(m)}, api.OK
}

// sortedOf is the promise of Of.
func sortedOf(routers, nets int, edges []api.Edge) (api.Graph, api.Errno) {
	m := map[pair]int{}
	for _, e := range edges {
		p := pair{e.From, e.To}
		if c, there := m[p]; !there || e.Cost < c {
			m[p] = e.Cost
		}
	}
	g := api.Graph{Routers: routers, Nets: nets, Edges: listed(m)}
	if err := check(g); err != api.OK {
		return api.Graph{}, err
	}
	return g, api.OK
}

// paths returns for each two nodes of a valid graph whether there is a path from the one to the other.
func paths(g api.Graph) [][]bool {
	n := g.Routers + g.Nets
	m := make([][]bool, n)
	for a := range m {
		m[a] = make([]bool, n)
		m[a][a] = true
	}
	for _, e := range g.Edges {
		m[e.From][e.To] = true
	}
	for via := range m {
		for a := range m {
			for b := range m {
				m[a][b] = m[a][b] || m[a][via] && m[via][b]
			}
		}
	}
	return m
}

func same(a, b api.Graph) bool {
	return a.Routers == b.Routers && a.Nets == b.Nets && slices.Equal(a.Edges, b.Edges)
}

// validGraph returns a valid graph; about one of sparse possible edges is in it.
func validGraph(r *rand.Rand, routers, nets, sparse int) api.Graph {
	g := api.Graph{Routers: routers, Nets: nets}
	for from := range routers + nets {
		for to := range routers + nets {
			e := api.Edge{From: from, To: to}
			if from < routers {
				e.Cost = 1 + r.IntN(9)
			}
			if isAllowed(g, e) && r.IntN(sparse) == 0 && len(g.Edges) < 1024 {
				g.Edges = append(g.Edges, e)
			}
		}
	}
	return g
}

// anyEdges returns edges of which many are not allowed in a graph with few nodes.
func anyEdges(r *rand.Rand, count int) []api.Edge {
	var l []api.Edge
	for range count {
		l = append(l, api.Edge{From: r.IntN(5) - r.IntN(2), To: r.IntN(5) - r.IntN(2), Cost: r.IntN(4) - 1})
	}
	return l
}

// spare returns the list with spare capacity after it, all of it filled.
func spare(l []api.Edge) []api.Edge {
	long := append(slices.Clone(l), api.Edge{From: 77, To: 77, Cost: 77}, api.Edge{From: 78, To: 78, Cost: 78})
	return long[:len(l)]
}

// unchanged fails if the list or the spare capacity of spare after it is not what it was.
func unchanged(t *testing.T, now, before []api.Edge) {
	t.Helper()
	if !slices.Equal(now[:len(now)+2], spare(before)[:len(before)+2]) {
		t.Errorf("the argument %v became %v", before, now[:len(now)+2])
	}
}
