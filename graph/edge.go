package graph

import (
	"cmp"
	"slices"

	"routing/api"
)

// isNode reports whether g, whose numbers of nodes are valid, has the node.
func isNode(g api.Graph, node int) bool {
	return node >= 0 && node < g.Routers+g.Nets
}

// allowed returns OK if the edge is allowed in g, whose numbers of nodes are valid.
func allowed(g api.Graph, e api.Edge) api.Errno {
	if !isNode(g, e.From) || !isNode(g, e.To) {
		return api.ErrRange
	}
	fromNet, toNet := e.From >= g.Routers, e.To >= g.Routers
	least, most := 1, api.MaxMetric
	if fromNet {
		least, most = 0, 0
	}
	if e.From == e.To || fromNet && toNet || e.Cost < least || e.Cost > most {
		return api.ErrInvalid
	}
	return api.OK
}

// leads reports whether the edge leads from from to to, at whatever cost.
func leads(e api.Edge, from, to int) bool {
	return e == api.Edge{From: from, To: to, Cost: e.Cost}
}

// order compares edges by From, then by To.
func order(a, b api.Edge) int {
	return cmp.Or(cmp.Compare(a.From, b.From), cmp.Compare(a.To, b.To))
}

// find returns the place of the edge from from to to in the edges of a valid graph, or the place where it belongs,
// and whether there is one.
func find(edges []api.Edge, from, to int) (int, bool) {
	return slices.BinarySearchFunc(edges, api.Edge{From: from, To: to}, order)
}
