package spf_test

import (
	"math/rand/v2"
	"slices"

	"routing/api"
)

// anyGraph returns a valid graph; about one of sparse possible edges is in it, with costs from 1 to dear.
func anyGraph(r *rand.Rand, routers, nets, sparse, dear int) api.Graph {
	g := api.Graph{Routers: routers, Nets: nets}
	for from := range routers + nets {
		for to := range routers + nets {
			e := api.Edge{From: from, To: to}
			if from < routers {
				e.Cost = 1 + r.IntN(dear)
			}
			if from != to && (from < routers || to < routers) && r.IntN(sparse) == 0 && len(g.Edges) < 1024 {
				g.Edges = append(g.Edges, e)
			}
		}
	}
	return g
}

// smallGraph returns a valid graph with few nodes and many paths of equal costs.
func smallGraph(r *rand.Rand) api.Graph {
	return anyGraph(r, 1+r.IntN(5), r.IntN(3), 1+r.IntN(4), 1+r.IntN(4))
}

// largeGraph returns a valid graph with up to 128 nodes and 1024 edges.
func largeGraph(r *rand.Rand) api.Graph {
	routers := 1 + r.IntN(128)
	nets := r.IntN(129 - routers)
	dear := []int{1, 3, 20, 65535}[r.IntN(4)]
	g := anyGraph(r, routers, nets, 1, dear)
	if r.IntN(4) > 0 {
		g = anyGraph(r, routers, nets, 1+(routers+nets)*(routers+nets)/(20+r.IntN(1004)), dear)
	}
	return g
}

// walk calls visit for each path from a node that visits no node twice, with its cost. All shortest paths are among
// them, since no cycle is without cost.
func walk(g api.Graph, path []int, cost int, visit func(path []int, cost int)) {
	visit(path, cost)
	for _, e := range g.Edges {
		if e.From == path[len(path)-1] && !slices.Contains(path, e.To) {
			walk(g, append(slices.Clone(path), e.To), cost+e.Cost, visit)
		}
	}
}

// shortest returns the shortest paths from the root to each node, by the definition.
func shortest(g api.Graph, root int) ([]int, [][][]int) {
	dist := slices.Repeat([]int{-1}, g.Routers+g.Nets)
	paths := make([][][]int, len(dist))
	walk(g, []int{root}, 0, func(path []int, cost int) {
		end := path[len(path)-1]
		if dist[end] < 0 || cost < dist[end] {
			dist[end], paths[end] = cost, nil
		}
		if cost == dist[end] {
			paths[end] = append(paths[end], path)
		}
	})
	return dist, paths
}

// firstHop is the definition of the first hop on a path that does not end at its beginning.
func firstHop(g api.Graph, path []int) int {
	for _, node := range path[1:] {
		if node < g.Routers {
			return node
		}
	}
	return path[len(path)-1]
}

// defined returns the tree of a router, by the definitions of the chapter.
func defined(g api.Graph, root int) api.Tree {
	dist, paths := shortest(g, root)
	t := api.Tree{Root: root, Dist: dist, Hops: make([][]int, len(dist)), Parents: make([][]int, len(dist))}
	for node := range dist {
		if node == root {
			continue
		}
		for _, path := range paths[node] {
			t.Hops[node] = append(t.Hops[node], firstHop(g, path))
			t.Parents[node] = append(t.Parents[node], path[len(path)-2])
		}
		t.Hops[node] = ascending(t.Hops[node])
		t.Parents[node] = ascending(t.Parents[node])
	}
	return t
}

func ascending(l []int) []int {
	slices.Sort(l)
	return slices.Compact(l)
}

// distances returns the distances between all nodes, by adding one node after the other to those that may be passed.
func distances(g api.Graph) [][]int {
	d := make([][]int, g.Routers+g.Nets)
	for a := range d {
		d[a] = slices.Repeat([]int{-1}, len(d))
		d[a][a] = 0
	}
	for _, e := range g.Edges {
		d[e.From][e.To] = e.Cost
	}
	for via := range d {
		for a := range d {
			for b := range d {
				if d[a][via] < 0 || d[via][b] < 0 {
					continue
				}
				if sum := d[a][via] + d[via][b]; d[a][b] < 0 || sum < d[a][b] {
					d[a][b] = sum
				}
			}
		}
	}
	return d
}

// fromDistances returns the tree of a router as it follows from the distances between all nodes: a router next to the
// root, perhaps behind a network, is a first hop of the nodes to which a shortest path passes it.
func fromDistances(g api.Graph, root int, d [][]int) api.Tree {
	t := api.Tree{Root: root, Dist: d[root], Hops: make([][]int, len(d)), Parents: make([][]int, len(d))}
	cost := map[[2]int]int{}
	for _, e := range g.Edges {
		cost[[2]int{e.From, e.To}] = e.Cost
		if e.To != root && d[root][e.From] >= 0 && d[root][e.From]+e.Cost == d[root][e.To] {
			t.Parents[e.To] = append(t.Parents[e.To], e.From)
		}
	}
	next := make([]bool, len(d))
	for node := range d {
		direct, ok := cost[[2]int{root, node}]
		next[node] = ok && direct == d[root][node]
		if next[node] && node >= g.Routers {
			t.Hops[node] = append(t.Hops[node], node)
		}
		for net := g.Routers; net < len(d); net++ {
			toNet, ok := cost[[2]int{root, net}]
			_, on := cost[[2]int{net, node}]
			next[node] = next[node] || ok && on && toNet == d[root][node]
		}
	}
	for hop := range g.Routers {
		for node := range d {
			if hop != root && next[hop] && d[hop][node] >= 0 && d[root][hop]+d[hop][node] == d[root][node] {
				t.Hops[node] = append(t.Hops[node], hop)
			}
		}
	}
	for node := range d {
		t.Hops[node] = ascending(t.Hops[node])
	}
	return t
}

// sameTree is the promise of Same.
func sameTree(a, b api.Tree) bool {
	if a.Root != b.Root || !slices.Equal(a.Dist, b.Dist) || len(a.Hops) != len(b.Hops) || len(a.Parents) != len(b.Parents) {
		return false
	}
	for i := range a.Hops {
		if !slices.Equal(a.Hops[i], b.Hops[i]) {
			return false
		}
	}
	for i := range a.Parents {
		if !slices.Equal(a.Parents[i], b.Parents[i]) {
			return false
		}
	}
	return true
}
