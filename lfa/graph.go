package lfa

import (
	"routing/api"
	"routing/graph"
	"routing/spf"
)

// routersOnly returns OK if g is valid and has no networks.
func routersOnly(g api.Graph) api.Errno {
	if err := graph.Check(g); err != api.OK {
		return err
	}
	if g.Nets > 0 {
		return api.ErrKind
	}
	return api.OK
}

func isRouter(g api.Graph, node int) bool { return node >= 0 && node < g.Routers }

// linkCost returns the cost of the edge from s to e, or the error if g or the link is not suitable.
func linkCost(g api.Graph, s, e int) (int, api.Errno) {
	if err := routersOnly(g); err != api.OK {
		return 0, err
	}
	if !isRouter(g, s) || !isRouter(g, e) {
		return 0, api.ErrRange
	}
	cost, ok := graph.Cost(g, s, e)
	if !ok {
		return 0, api.ErrNotFound
	}
	return cost, api.OK
}

// leaving returns the edges that leave a node.
func leaving(g api.Graph, node int) []api.Edge {
	var edges []api.Edge
	for _, e := range g.Edges {
		if e.From == node {
			edges = append(edges, e)
		}
	}
	return edges
}

// closer returns the nodes, ascending, that the near node reaches at a distance less than that from the far node plus
// the cost of the edge between the two.
func closer(g api.Graph, near, far, cost int) ([]int, api.Errno) {
	nearTree, err := spf.Run(g, near)
	if err != api.OK {
		return nil, err
	}
	farTree, err := spf.Run(g, far)
	if err != api.OK {
		return nil, err
	}
	var nodes []int
	for node, dist := range nearTree.Dist {
		over := farTree.Dist[node]
		if dist >= 0 && (over < 0 || dist < cost+over) {
			nodes = append(nodes, node)
		}
	}
	return nodes, api.OK
}
