package spf_test

import (
	"math"
	"math/rand/v2"
	"slices"
	"testing"

	"routing/api"
	"routing/graph"
	"routing/spf"
)

func ring() api.Graph {
	return api.Graph{Routers: 4, Edges: []api.Edge{
		{From: 0, To: 1, Cost: 1}, {From: 0, To: 3, Cost: 1}, {From: 1, To: 0, Cost: 1}, {From: 1, To: 2, Cost: 1},
		{From: 2, To: 1, Cost: 1}, {From: 2, To: 3, Cost: 1}, {From: 3, To: 0, Cost: 1}, {From: 3, To: 2, Cost: 1},
	}}
}

// run returns the tree of a root that Run accepts.
func run(t *testing.T, g api.Graph, root int) api.Tree {
	t.Helper()
	tree, err := spf.Run(g, root)
	if err != api.OK {
		t.Fatalf("Run(%v, %d) = %v", g, root, err)
	}
	return tree
}

// P11.1
func TestRun(t *testing.T) {
	r := rand.New(rand.NewPCG(11, 1))
	several := 0
	for range 4000 {
		g := smallGraph(r)
		for root := range g.Routers {
			tree, want := run(t, g, root), defined(g, root)
			if !sameTree(tree, want) {
				t.Fatalf("Run(%v, %d) = %v, want %v", g, root, tree, want)
			}
			for node := range want.Hops {
				if len(want.Hops[node]) > 1 && len(want.Parents[node]) > 1 {
					several++
				}
			}
		}
	}
	if several < 1000 {
		t.Errorf("only %d nodes with several hops and parents", several)
	}
}

// P11.1
func TestRunOfLargeGraphs(t *testing.T) {
	r := rand.New(rand.NewPCG(11, 11))
	for range 60 {
		g := largeGraph(r)
		d := distances(g)
		for root := range g.Routers {
			if tree, want := run(t, g, root), fromDistances(g, root, d); !sameTree(tree, want) {
				t.Fatalf("Run(%v, %d) = %v, want %v", g, root, tree, want)
			}
		}
	}
}

// P11.1: the examples of the chapter.
func TestRunExamples(t *testing.T) {
	want := api.Tree{Dist: []int{0, 1, 2, 1}, Hops: [][]int{nil, {1}, {1, 3}, {3}}, Parents: [][]int{nil, {0}, {1, 3}, {0}}}
	if tree := run(t, ring(), 0); !sameTree(tree, want) {
		t.Error("ring:", tree)
	}
	lan := api.Graph{Routers: 2, Nets: 1, Edges: []api.Edge{{From: 0, To: 2, Cost: 3}, {From: 1, To: 2, Cost: 3}, {From: 2, To: 0}, {From: 2, To: 1}}}
	want = api.Tree{Dist: []int{0, 3, 3}, Hops: [][]int{nil, {1}, {2}}, Parents: [][]int{nil, {2}, {0}}}
	if tree := run(t, lan, 0); !sameTree(tree, want) {
		t.Error("LAN:", tree)
	}
	want = api.Tree{Root: 1, Dist: []int{-1, 0, -1}, Hops: make([][]int, 3), Parents: make([][]int, 3)}
	if tree := run(t, api.Graph{Routers: 2, Nets: 1}, 1); !sameTree(tree, want) {
		t.Error("no edges:", tree)
	}
}

// P11.1: a router is reached at the same distance by an edge and, without cost, from networks, one of them behind
// another router; what follows it has the first hops of all of them.
func TestRunOverNetworksAtTheSameDistance(t *testing.T) {
	g, err := graph.Of(4, 2,
		api.Edge{From: 0, To: 1, Cost: 4}, api.Edge{From: 0, To: 2, Cost: 1}, api.Edge{From: 0, To: 4, Cost: 4},
		api.Edge{From: 2, To: 5, Cost: 3}, api.Edge{From: 1, To: 3, Cost: 1}, api.Edge{From: 2, To: 3, Cost: 5},
		api.Edge{From: 4, To: 1}, api.Edge{From: 5, To: 1}, api.Edge{From: 4, To: 0})
	if err != api.OK {
		t.Fatal(err)
	}
	want := api.Tree{
		Dist:    []int{0, 4, 1, 5, 4, 4},
		Hops:    [][]int{nil, {1, 2}, {2}, {1, 2}, {4}, {2}},
		Parents: [][]int{nil, {0, 4, 5}, {0}, {1}, {0}, {2}},
	}
	if tree := run(t, g, 0); !sameTree(tree, want) {
		t.Error(tree)
	}
}

// P11.1
func TestRunOfTheLongestPath(t *testing.T) {
	chain := api.Graph{Routers: 128}
	for node := range 127 {
		chain.Edges = append(chain.Edges, api.Edge{From: node, To: node + 1, Cost: 65535})
	}
	tree := run(t, chain, 0)
	for node := 1; node < 128; node++ {
		if tree.Dist[node] != 65535*node || !slices.Equal(tree.Hops[node], []int{1}) || !slices.Equal(tree.Parents[node], []int{node - 1}) {
			t.Fatal(node, tree.Dist[node], tree.Hops[node], tree.Parents[node])
		}
	}
	if p := spf.Path(tree, 127); len(p) != 128 || p[0] != 0 || p[64] != 64 || p[127] != 127 {
		t.Error("Path", p)
	}
}

// wrongGraph is a graph that is not valid, with the error of graph.Check.
type wrongGraph struct {
	graph api.Graph
	err   api.Errno
}

func wrongGraphs() []wrongGraph {
	return []wrongGraph{
		{api.Graph{Routers: -1}, api.ErrRange},
		{api.Graph{Routers: 2, Nets: -1}, api.ErrRange},
		{api.Graph{Routers: math.MinInt, Nets: math.MaxInt}, api.ErrRange},
		{api.Graph{Routers: 129}, api.ErrTooLong},
		{api.Graph{Routers: math.MaxInt, Nets: math.MaxInt}, api.ErrTooLong},
		{api.Graph{Routers: 2, Edges: make([]api.Edge, 1025)}, api.ErrTooLong},
		{api.Graph{Routers: 2, Edges: []api.Edge{{From: 0, To: 2, Cost: 1}}}, api.ErrRange},
		{api.Graph{Routers: 2, Edges: []api.Edge{{From: math.MinInt, To: 1, Cost: 1}}}, api.ErrRange},
		{api.Graph{Routers: 2, Edges: []api.Edge{{From: 0, To: 1}}}, api.ErrInvalid},
		{api.Graph{Routers: 2, Edges: []api.Edge{{From: 0, To: 1, Cost: 65536}}}, api.ErrInvalid},
		{api.Graph{Routers: 2, Nets: 1, Edges: []api.Edge{{From: 2, To: 1, Cost: 1}}}, api.ErrInvalid},
		{api.Graph{Routers: 2, Edges: []api.Edge{{From: 1, To: 0, Cost: 1}, {From: 0, To: 1, Cost: 1}}}, api.ErrOrder},
	}
}

// P11.1: the error of the graph comes before that of the root.
func TestRunErrors(t *testing.T) {
	for _, w := range wrongGraphs() {
		for _, root := range []int{0, -1, 2, 1000, math.MinInt} {
			if tree, err := spf.Run(w.graph, root); err != w.err || !sameTree(tree, api.Tree{}) {
				t.Errorf("Run(%d routers, %d nets, %d) = %v, %v, want %v", w.graph.Routers, w.graph.Nets, root, tree, err, w.err)
			}
		}
	}
	lan := api.Graph{Routers: 2, Nets: 2, Edges: []api.Edge{{From: 0, To: 2, Cost: 3}}}
	for _, root := range []int{-1, 2, 3, 4, math.MinInt, math.MaxInt} {
		if tree, err := spf.Run(lan, root); err != api.ErrRange || !sameTree(tree, api.Tree{}) {
			t.Errorf("Run(%v, %d) = %v, %v", lan, root, tree, err)
		}
	}
	for _, g := range []api.Graph{{}, {Nets: 1}} {
		if tree, err := spf.Run(g, 0); err != api.ErrRange || !sameTree(tree, api.Tree{}) {
			t.Errorf("Run(%v, 0) = %v, %v", g, tree, err)
		}
	}
	if tree, err := spf.Run(lan, 1); err != api.OK || tree.Root != 1 {
		t.Error("the last router:", tree, err)
	}
}

// P11.4
func TestAll(t *testing.T) {
	r := rand.New(rand.NewPCG(11, 4))
	for i := range 1500 {
		g := smallGraph(r)
		if i%100 == 0 {
			g = largeGraph(r)
		}
		d := distances(g)
		rows, err := spf.All(g)
		if err != api.OK || len(rows) != g.Routers {
			t.Fatalf("All(%v) = %v, %v", g, rows, err)
		}
		for from, row := range rows {
			if !slices.Equal(row, d[from][:g.Routers]) {
				t.Fatalf("All(%v)[%d] = %v, want %v", g, from, row, d[from][:g.Routers])
			}
		}
	}
	for _, w := range wrongGraphs() {
		if rows, err := spf.All(w.graph); err != w.err || len(rows) != 0 {
			t.Errorf("All(%d routers, %d nets) = %v, %v, want %v", w.graph.Routers, w.graph.Nets, rows, err, w.err)
		}
	}
	for _, g := range []api.Graph{{}, {Nets: 128}} {
		if rows, err := spf.All(g); err != api.OK || len(rows) != 0 {
			t.Errorf("All(%v) = %v, %v", g, rows, err)
		}
	}
}

// P11.7
func TestTriangle(t *testing.T) {
	r := rand.New(rand.NewPCG(11, 7))
	for range 200 {
		d, err := spf.All(anyGraph(r, 1+r.IntN(12), r.IntN(6), 1+r.IntN(6), 9))
		if err != api.OK {
			t.Fatal(err)
		}
		for a := range d {
			if d[a][a] != 0 {
				t.Fatal("from a router to itself:", d[a][a])
			}
			for b := range d {
				for c := range d {
					if d[a][b] >= 0 && d[b][c] >= 0 && (d[a][c] < 0 || d[a][c] > d[a][b]+d[b][c]) {
						t.Fatal("from", a, "over", b, "to", c, "in", d)
					}
				}
			}
		}
	}
}

// P11.6
func TestEdges(t *testing.T) {
	r := rand.New(rand.NewPCG(11, 6))
	for range 100 {
		g := largeGraph(r)
		root := r.IntN(g.Routers)
		tree := run(t, g, root)
		for _, e := range g.Edges {
			from, to := tree.Dist[e.From], tree.Dist[e.To]
			if from >= 0 && (to < 0 || to > from+e.Cost) {
				t.Fatalf("the distances of %v from %d are %d, %d", e, root, from, to)
			}
		}
		for node, dist := range tree.Dist {
			reached := dist >= 0 && node != root
			if len(tree.Parents[node]) > 0 != reached || len(tree.Hops[node]) > 0 != reached {
				t.Fatalf("node %d from %d: %d, %v, %v", node, root, dist, tree.Hops[node], tree.Parents[node])
			}
		}
	}
}

// P11.9
func TestFewerEdges(t *testing.T) {
	r := rand.New(rand.NewPCG(11, 9))
	for range 300 {
		g := anyGraph(r, 1+r.IntN(8), r.IntN(5), 1+r.IntN(4), 5)
		root := r.IntN(g.Routers)
		before := run(t, g, root).Dist
		for _, e := range g.Edges {
			less, err := graph.Apply(g, api.Change{From: e.From, To: e.To, Cost: -1})
			if err != api.OK {
				t.Fatal(err)
			}
			for node, dist := range run(t, less, root).Dist {
				if dist >= 0 && (before[node] < 0 || dist < before[node]) {
					t.Fatalf("without %v the distance of %d from %d in %v is %d, not %d", e, node, root, g, dist, before[node])
				}
			}
		}
	}
}

// apart fails if two of the lists share memory, including what lies behind their ends.
func apart(t *testing.T, lists ...[]int) {
	t.Helper()
	for i, l := range lists {
		l = l[:cap(l)]
		for j := range l {
			l[j] = -7 - i
		}
	}
	for i, l := range lists {
		for _, x := range l[:cap(l)] {
			if x != -7-i {
				t.Fatal("two lists share memory")
			}
		}
	}
}

// P11.1, P11.4: the lists of results are memory of their own, and the edges are left as they are.
func TestMemory(t *testing.T) {
	r := rand.New(rand.NewPCG(11, 5))
	for range 200 {
		g := largeGraph(r)
		extra := api.Edge{From: 77, To: 77, Cost: 77}
		edges := slices.Concat(g.Edges, []api.Edge{extra, extra})
		g.Edges = slices.Clone(edges)[:len(g.Edges)]
		tree := run(t, g, r.IntN(g.Routers))
		path := spf.Path(tree, r.IntN(g.Routers+g.Nets))
		rows, err := spf.All(g)
		if err != api.OK || !spf.Check(g, tree) {
			t.Fatal("All, Check:", err)
		}
		if !slices.Equal(g.Edges[:len(edges)], edges) {
			t.Fatal("the edges of the argument were changed")
		}
		apart(t, slices.Concat([][]int{tree.Dist, path}, tree.Hops, tree.Parents)...)
		apart(t, rows...)
	}
}
