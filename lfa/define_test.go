package lfa_test

import (
	"math/big"
	"math/rand/v2"
	"slices"

	"routing/api"
)

// anyGraph returns a valid graph without networks; about one of sparse possible edges is in it, with costs from 1 to
// dear that are the same in both directions if even is set.
func anyGraph(r *rand.Rand, routers, sparse, dear int, even bool) api.Graph {
	g := api.Graph{Routers: routers}
	costs := make([][]int, routers)
	for from := range costs {
		costs[from] = make([]int, routers)
		for to := range costs[from] {
			if from != to && r.IntN(sparse) == 0 {
				costs[from][to] = 1 + r.IntN(dear)
			}
		}
	}
	for from, row := range costs {
		for to, cost := range row {
			if even && from > to {
				cost = costs[to][from]
			}
			if cost > 0 && len(g.Edges) < 1024 {
				g.Edges = append(g.Edges, api.Edge{From: from, To: to, Cost: cost})
			}
		}
	}
	return g
}

// smallGraph returns a graph with few routers and many paths of equal costs.
func smallGraph(r *rand.Rand) api.Graph {
	return anyGraph(r, 1+r.IntN(6), 1+r.IntN(3), 1+r.IntN(4), r.IntN(2) == 0)
}

// largeGraph returns a graph with up to 128 routers and 1024 edges.
func largeGraph(r *rand.Rand) api.Graph {
	routers := 2 + r.IntN(127)
	dear := []int{1, 3, 20, 65535}[r.IntN(4)]
	return anyGraph(r, routers, 1+routers*routers/(20+r.IntN(1004)), dear, r.IntN(2) == 0)
}

// ring is a ring of routers with edges of cost 1 in both directions.
func ring(routers int) api.Graph {
	g := api.Graph{Routers: routers}
	for node := range routers {
		next := []int{(node + 1) % routers, (node + routers - 1) % routers}
		slices.Sort(next)
		for _, to := range next {
			g.Edges = append(g.Edges, api.Edge{From: node, To: to, Cost: 1})
		}
	}
	return g
}

// edgeCost returns the cost of an edge, 0 if there is none.
func edgeCost(g api.Graph, from, to int) int {
	for _, e := range g.Edges {
		if e.From == from && e.To == to {
			return e.Cost
		}
	}
	return 0
}

// distances returns the distances between all routers, by adding one router after the other to those that may be
// passed; -1 if there is no path.
func distances(g api.Graph) [][]int {
	d := make([][]int, g.Routers)
	for a := range d {
		d[a] = slices.Repeat([]int{-1}, len(d))
		d[a][a] = 0
	}
	for _, e := range g.Edges {
		d[e.From][e.To] = e.Cost
	}
	for via := range d {
		for a := range d {
			for b := range d {
				if d[a][via] < 0 || d[via][b] < 0 {
					continue
				}
				if sum := d[a][via] + d[via][b]; d[a][b] < 0 || sum < d[a][b] {
					d[a][b] = sum
				}
			}
		}
	}
	return d
}

// nextHops returns the nodes that follow a node on shortest paths to another one, ascending.
func nextHops(g api.Graph, d [][]int, node, to int) []int {
	var hops []int
	if node == to || d[node][to] < 0 {
		return nil
	}
	for _, e := range g.Edges {
		if e.From == node && d[e.To][to] >= 0 && e.Cost+d[e.To][to] == d[node][to] {
			hops = append(hops, e.To)
		}
	}
	slices.Sort(hops)
	return hops
}

// passed returns all nodes on shortest paths from a node to one that it reaches, both included, by following all next
// hops.
func passed(g api.Graph, d [][]int, node, to int) []int {
	nodes := []int{node}
	for i := 0; i < len(nodes); i++ {
		for _, hop := range nextHops(g, d, nodes[i], to) {
			if !slices.Contains(nodes, hop) {
				nodes = append(nodes, hop)
			}
		}
	}
	return nodes
}

// uses reports whether a shortest path between two nodes uses an edge, by following all next hops.
func uses(g api.Graph, d [][]int, node, to, edgeFrom, edgeTo int) bool {
	return slices.Contains(passed(g, d, node, to), edgeFrom) && slices.Contains(nextHops(g, d, edgeFrom, to), edgeTo)
}

// defined returns the alternates of a root: a candidate is loop-free if no shortest path from it passes the root.
func defined(g api.Graph, root int) []api.Alternate {
	var l []api.Alternate
	d := distances(g)
	for dest := range g.Routers {
		for _, primary := range nextHops(g, d, root, dest) {
			var best []int
			var chosen api.Alternate
			for via := range g.Routers {
				cost := edgeCost(g, root, via)
				if cost == 0 || via == primary || d[via][dest] < 0 || slices.Contains(passed(g, d, via, dest), root) {
					continue
				}
				kind := 1
				if primary != dest && !slices.Contains(passed(g, d, via, dest), primary) {
					kind = 2
				}
				rank := []int{-kind, cost + d[via][dest], via}
				if best == nil || slices.Compare(rank, best) < 0 {
					best = rank
					chosen = api.Alternate{Dest: dest, Primary: primary, Via: via, Kind: kind, Downstream: d[via][dest] < d[root][dest]}
				}
			}
			if best != nil {
				l = append(l, chosen)
			}
		}
	}
	return l
}

// pSpace returns the nodes to which shortest paths from s lead, none of which uses the edge from s to e.
func pSpace(g api.Graph, d [][]int, s, e int) []int {
	var l []int
	for node := range d {
		if d[s][node] >= 0 && !uses(g, d, s, node, s, e) {
			l = append(l, node)
		}
	}
	return l
}

// qSpace returns the nodes from which shortest paths lead to e, none of which uses the edge from s to e.
func qSpace(g api.Graph, d [][]int, s, e int) []int {
	var l []int
	for node := range d {
		if d[node][e] >= 0 && !uses(g, d, node, e, s, e) {
			l = append(l, node)
		}
	}
	return l
}

// remote is the promise of Remote for an edge that exists.
func remote(g api.Graph, d [][]int, s, e int) (int, bool) {
	p, q := pSpace(g, d, s, e), qSpace(g, d, s, e)
	end, found := 0, false
	for node := len(d) - 1; node >= 0; node-- {
		both := node != s && slices.Contains(p, node) && slices.Contains(q, node)
		if both && (!found || d[s][node] <= d[s][end]) {
			end, found = node, true
		}
	}
	return end, found
}

// walked is the promise of Walk for a valid graph without networks and two routers.
func walked(g api.Graph, dist [][]int, from, d, a, b int) ([]int, bool) {
	nodes := []int{from}
	for {
		node := nodes[len(nodes)-1]
		hops := nextHops(g, dist, node, d)
		if len(hops) == 0 {
			return nodes, node == d
		}
		if link := []int{node, hops[0]}; slices.Equal(link, []int{a, b}) || slices.Equal(link, []int{b, a}) {
			return nodes, false
		}
		nodes = append(nodes, hops[0])
	}
}

// tableEntry returns an element of a table as a number without bounds, nil if it is infinite, and whether it exists.
func tableEntry(dist [][]int, x, y int) (*big.Int, bool) {
	if x < 0 || x >= len(dist) || y < 0 || y >= len(dist[x]) {
		return nil, false
	}
	if dist[x][y] < 0 {
		return nil, true
	}
	return big.NewInt(int64(dist[x][y])), true
}

// below reports whether a number is finite and less than the sum of others, any of which may be infinite.
func below(a *big.Int, parts ...*big.Int) bool {
	sum := new(big.Int)
	for _, part := range parts {
		if part == nil {
			return a != nil
		}
		sum.Add(sum, part)
	}
	return a != nil && a.Cmp(sum) < 0
}

// nearer is the promise of Loopfree and Protects: the distance from one node to another one is less than over a third.
func nearer(dist [][]int, from, through, to int) bool {
	whole, a := tableEntry(dist, from, to)
	first, b := tableEntry(dist, from, through)
	second, c := tableEntry(dist, through, to)
	return a && b && c && below(whole, first, second)
}

// downstream is the promise of Downstream.
func downstream(dist [][]int, s, n, d int) bool {
	near, a := tableEntry(dist, n, d)
	far, b := tableEntry(dist, s, d)
	return a && b && below(near, far)
}
