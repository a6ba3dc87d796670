package graph

import (
	"cmp"
	"slices"

	"routing/api"
)

// Apply applies changes in order.
func Apply(g api.Graph, changes ...api.Change) (api.Graph, api.Errno) {
	if err := Check(g); err != api.OK {
		return api.Graph{}, err
	}
	g.Edges = slices.Clone(g.Edges)
	for _, c := range changes {
		var err api.Errno
		if c.Cost < 0 {
			err = remove(&g, c.From, c.To)
		} else {
			err = set(&g, api.Edge(c))
		}
		if err != api.OK {
			return api.Graph{}, err
		}
	}
	return g, api.OK
}

// remove takes an edge out of a valid graph whose edges it may change.
func remove(g *api.Graph, from, to int) api.Errno {
	if !isNode(*g, from) || !isNode(*g, to) {
		return api.ErrRange
	}
	place, found := find(g.Edges, from, to)
	if !found {
		return api.ErrNotFound
	}
	g.Edges = slices.Delete(g.Edges, place, place+1)
	return api.OK
}

// set puts an edge into a valid graph whose edges it may change, in place of one between the same nodes.
func set(g *api.Graph, e api.Edge) api.Errno {
	if err := allowed(*g, e); err != api.OK {
		return err
	}
	place, found := find(g.Edges, e.From, e.To)
	if found {
		g.Edges[place] = e
		return api.OK
	}
	if len(g.Edges) >= api.MaxEdges {
		return api.ErrTooLong
	}
	g.Edges = slices.Insert(g.Edges, place, e)
	return api.OK
}

// Reverse returns the graph with all edges reversed; it accepts any graph and is valid for graphs without networks.
func Reverse(g api.Graph) api.Graph {
	g.Edges = slices.Clone(g.Edges)
	for i, e := range g.Edges {
		g.Edges[i] = api.Edge{From: e.To, To: e.From, Cost: e.Cost}
	}
	slices.SortStableFunc(g.Edges, order)
	return g
}

// Without returns g without the edges of a node.
func Without(g api.Graph, node int) api.Graph {
	return drop(g, func(e api.Edge) bool { return e.From == node || e.To == node })
}

// Cut returns g without the edges between two nodes, in both directions.
func Cut(g api.Graph, a, b int) api.Graph {
	return drop(g, func(e api.Edge) bool { return leads(e, a, b) || leads(e, b, a) })
}

// drop returns g without the edges that are chosen.
func drop(g api.Graph, chosen func(api.Edge) bool) api.Graph {
	g.Edges = slices.DeleteFunc(slices.Clone(g.Edges), chosen)
	return g
}

// Of returns the valid graph of edges, sorted; of several edges between the same nodes the cheapest one is used.
func Of(routers, nets int, edges ...api.Edge) (api.Graph, api.Errno) {
	sorted := slices.Clone(edges)
	slices.SortFunc(sorted, func(a, b api.Edge) int { return cmp.Or(order(a, b), cmp.Compare(a.Cost, b.Cost)) })
	least := slices.CompactFunc(sorted, func(a, b api.Edge) bool { return leads(b, a.From, a.To) })
	g := api.Graph{Routers: routers, Nets: nets, Edges: least}
	if err := Check(g); err != api.OK {
		return api.Graph{}, err
	}
	return g, api.OK
}
