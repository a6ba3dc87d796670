package spf_test

import (
	"math"
	"math/rand/v2"
	"slices"
	"testing"

	"routing/api"
	"routing/spf"
)

func copyOf(t api.Tree) api.Tree {
	t.Dist, t.Hops, t.Parents = slices.Clone(t.Dist), slices.Clone(t.Hops), slices.Clone(t.Parents)
	for _, rows := range [][][]int{t.Hops, t.Parents} {
		for i, row := range rows {
			rows[i] = slices.Clone(row)
		}
	}
	return t
}

// strange returns an integer, mostly a small one.
func strange(r *rand.Rand) int {
	if r.IntN(20) == 0 {
		return []int{math.MinInt, math.MaxInt, -2, 128, 65536, 1 << 40}[r.IntN(6)]
	}
	return r.IntN(8) - 1
}

// spoil makes a change to a tree that nearly always makes it another one.
func spoil(r *rand.Rand, t *api.Tree) {
	rows := &t.Hops
	if r.IntN(2) == 0 {
		rows = &t.Parents
	}
	node := r.IntN(len(t.Dist))
	switch r.IntN(8) {
	case 0:
		t.Root = strange(r)
	case 1, 2:
		t.Dist[node] = strange(r)
	case 3:
		(*rows)[node] = append((*rows)[node], strange(r))
	case 4:
		if row := (*rows)[node]; len(row) > 0 {
			row[r.IntN(len(row))] = strange(r)
		}
	case 5:
		if row := (*rows)[node]; len(row) > 0 {
			(*rows)[node] = row[:len(row)-1]
		}
	case 6:
		*rows = (*rows)[:node]
	case 7:
		*rows = append(*rows, nil)
	}
}

// anyTree returns a tree with rows of any kind.
func anyTree(r *rand.Rand) api.Tree {
	list := func() []int {
		var l []int
		for range r.IntN(8) {
			l = append(l, strange(r))
		}
		return l
	}
	t := api.Tree{Root: strange(r), Dist: list()}
	for range r.IntN(8) {
		t.Hops = append(t.Hops, list())
	}
	for range r.IntN(8) {
		t.Parents = append(t.Parents, list())
	}
	return t
}

// P11.2, P11.5
func TestCheckAndSame(t *testing.T) {
	r := rand.New(rand.NewPCG(11, 2))
	wrong := 0
	for range 30000 {
		g := smallGraph(r)
		tree := run(t, g, r.IntN(g.Routers))
		other := copyOf(tree)
		for range r.IntN(3) {
			if len(other.Dist) == len(other.Hops) && len(other.Dist) == len(other.Parents) {
				spoil(r, &other)
			}
		}
		want := other.Root >= 0 && other.Root < g.Routers && sameTree(defined(g, other.Root), other)
		if !want {
			wrong++
		}
		if spf.Check(g, other) != want {
			t.Fatalf("Check(%v, %v) = %v", g, other, !want)
		}
		if spf.Same(tree, other) != sameTree(tree, other) || spf.Same(other, tree) != sameTree(tree, other) {
			t.Fatalf("Same(%v, %v) = %v", tree, other, !sameTree(tree, other))
		}
	}
	if wrong < 10000 {
		t.Errorf("only %d wrong trees", wrong)
	}
}

// P11.2
func TestCheckOfLargeGraphs(t *testing.T) {
	r := rand.New(rand.NewPCG(11, 22))
	for range 200 {
		g := largeGraph(r)
		tree := run(t, g, r.IntN(g.Routers))
		if !spf.Check(g, tree) {
			t.Fatalf("Check(%v, %v) = false", g, tree)
		}
		tree.Dist[r.IntN(len(tree.Dist))] += 1 + r.IntN(2)
		if spf.Check(g, tree) {
			t.Fatalf("Check(%v, %v) = true", g, tree)
		}
	}
}

// P11.2: graphs and roots for which Run returns an error, and trees with other numbers of rows.
func TestCheckOfOtherTrees(t *testing.T) {
	for _, w := range wrongGraphs() {
		for _, tree := range []api.Tree{{}, {Dist: []int{0, -1}, Hops: make([][]int, 2), Parents: make([][]int, 2)}} {
			if spf.Check(w.graph, tree) {
				t.Errorf("Check(%d routers, %d nets, %v) = true", w.graph.Routers, w.graph.Nets, tree)
			}
		}
	}
	if spf.Check(api.Graph{}, api.Tree{}) || spf.Check(api.Graph{Nets: 1}, api.Tree{Dist: []int{0}, Hops: make([][]int, 1), Parents: make([][]int, 1)}) {
		t.Error("Check of a graph without routers")
	}
	alone := api.Graph{Routers: 1}
	for _, c := range []struct {
		tree api.Tree
		want bool
	}{
		{api.Tree{Dist: []int{0}, Hops: make([][]int, 1), Parents: make([][]int, 1)}, true},
		{api.Tree{Dist: []int{0}, Hops: [][]int{{}}, Parents: [][]int{{}}}, true},
		{api.Tree{}, false},
		{api.Tree{Dist: []int{0}}, false},
		{api.Tree{Dist: []int{0}, Hops: make([][]int, 1)}, false},
		{api.Tree{Dist: []int{0}, Parents: make([][]int, 1)}, false},
		{api.Tree{Dist: []int{0}, Hops: make([][]int, 2), Parents: make([][]int, 1)}, false},
		{api.Tree{Dist: []int{0, 0}, Hops: make([][]int, 2), Parents: make([][]int, 2)}, false},
		{api.Tree{Dist: []int{0}, Hops: [][]int{{0}}, Parents: make([][]int, 1)}, false},
		{api.Tree{Dist: []int{0}, Hops: make([][]int, 1), Parents: [][]int{{0}}}, false},
		{api.Tree{Root: 1, Dist: []int{0}, Hops: make([][]int, 1), Parents: make([][]int, 1)}, false},
		{api.Tree{Root: -1, Dist: []int{0}, Hops: make([][]int, 1), Parents: make([][]int, 1)}, false},
	} {
		if spf.Check(alone, c.tree) != c.want {
			t.Errorf("Check(%v) = %v", c.tree, !c.want)
		}
	}
}

// P11.5
func TestSameOfAnyTrees(t *testing.T) {
	r := rand.New(rand.NewPCG(11, 55))
	for range 20000 {
		a, b := anyTree(r), anyTree(r)
		if r.IntN(2) == 0 {
			b = copyOf(a)
			if len(b.Dist) > 0 && len(b.Hops) >= len(b.Dist) && len(b.Parents) >= len(b.Dist) {
				spoil(r, &b)
			}
		}
		if spf.Same(a, b) != sameTree(a, b) || !spf.Same(a, a) {
			t.Fatalf("Same(%v, %v) = %v", a, b, !sameTree(a, b))
		}
	}
	if !spf.Same(api.Tree{}, api.Tree{Dist: []int{}, Hops: [][]int{}, Parents: [][]int{}}) {
		t.Error("empty lists differ from missing ones")
	}
	if !spf.Same(api.Tree{Hops: [][]int{nil}}, api.Tree{Hops: [][]int{{}}}) || spf.Same(api.Tree{Hops: [][]int{nil}}, api.Tree{}) {
		t.Error("rows without elements")
	}
}

// P11.3, P11.8
func TestPath(t *testing.T) {
	r := rand.New(rand.NewPCG(11, 3))
	several := 0
	for range 4000 {
		g := smallGraph(r)
		root := r.IntN(g.Routers)
		tree := run(t, g, root)
		_, paths := shortest(g, root)
		for node, all := range paths {
			var want []int
			if len(all) > 0 {
				want = slices.MinFunc(all, slices.Compare)
			}
			if len(all) > 1 {
				several++
			}
			if p := spf.Path(tree, node); !slices.Equal(p, want) {
				t.Fatalf("Path from %d to %d in %v = %v, want %v", root, node, g, p, want)
			}
		}
		for _, node := range []int{-1, g.Routers + g.Nets, math.MinInt, math.MaxInt} {
			if p := spf.Path(tree, node); len(p) != 0 {
				t.Fatalf("Path from %d to %d in %v = %v", root, node, g, p)
			}
		}
	}
	if several < 1000 {
		t.Errorf("only %d nodes with several paths", several)
	}
}

// P11.3: the path is least from the root on, whatever its last steps are.
func TestPathExamples(t *testing.T) {
	tree := run(t, ring(), 0)
	for to, want := range [][]int{{0}, {0, 1}, {0, 1, 2}, {0, 3}} {
		if p := spf.Path(tree, to); !slices.Equal(p, want) {
			t.Errorf("Path to %d = %v", to, p)
		}
	}
	g := api.Graph{Routers: 6, Edges: []api.Edge{
		{From: 0, To: 1, Cost: 2}, {From: 0, To: 3, Cost: 1}, {From: 0, To: 4, Cost: 1},
		{From: 1, To: 4, Cost: 5}, {From: 2, To: 5, Cost: 1}, {From: 3, To: 2, Cost: 1}, {From: 3, To: 5, Cost: 2},
		{From: 4, To: 2, Cost: 1},
	}}
	if p := spf.Path(run(t, g, 0), 5); !slices.Equal(p, []int{0, 3, 2, 5}) {
		t.Error("Path to 5:", p)
	}
	if p := spf.Path(run(t, g, 2), 0); len(p) != 0 {
		t.Error("Path to an unreached node:", p)
	}
	if p := spf.Path(run(t, g, 2), 2); !slices.Equal(p, []int{2}) {
		t.Error("Path to the root:", p)
	}
}

// P11.8
func TestPathSteps(t *testing.T) {
	r := rand.New(rand.NewPCG(11, 8))
	for range 200 {
		g := largeGraph(r)
		root := r.IntN(g.Routers)
		tree := run(t, g, root)
		costs := map[[2]int]int{}
		for _, e := range g.Edges {
			costs[[2]int{e.From, e.To}] = e.Cost
		}
		for node, dist := range tree.Dist {
			p := spf.Path(tree, node)
			if dist < 0 {
				if len(p) != 0 {
					t.Fatalf("Path to the unreached node %d: %v", node, p)
				}
				continue
			}
			if p[0] != root || p[len(p)-1] != node {
				t.Fatalf("Path from %d to %d: %v", root, node, p)
			}
			sum := 0
			for i, step := range p[1:] {
				cost, ok := costs[[2]int{p[i], step}]
				if !ok || !slices.Contains(tree.Parents[step], p[i]) {
					t.Fatalf("the step from %d to %d of %v", p[i], step, p)
				}
				sum += cost
			}
			if sum != dist {
				t.Fatalf("Path %v costs %d, not %d", p, sum, dist)
			}
			if node != root && !slices.Contains(tree.Hops[node], firstHop(g, p)) {
				t.Fatalf("Path %v has none of the first hops %v", p, tree.Hops[node])
			}
		}
	}
}

// P11.3: for trees that Run did not return, Path returns something.
func TestPathOfAnyTrees(t *testing.T) {
	r := rand.New(rand.NewPCG(11, 33))
	for range 20000 {
		tree := anyTree(r)
		for to := -2; to < 10; to++ {
			p := spf.Path(tree, to)
			if len(p) > 0 && (to < 0 || to >= len(tree.Dist) || tree.Dist[to] < 0) {
				t.Fatalf("Path(%v, %d) = %v", tree, to, p)
			}
		}
	}
	cycle := api.Tree{Dist: []int{0, 1, 1, 1}, Parents: [][]int{{1}, {0}, {1}, {2, 3}}}
	for to := range cycle.Dist {
		spf.Path(cycle, to)
	}
	const long = 1 << 18
	chain := api.Tree{Dist: make([]int, long), Parents: make([][]int, long)}
	for node := range long - 1 {
		chain.Parents[node+1] = []int{node}
	}
	spf.Path(chain, long-1)
	between := api.Tree{Dist: make([]int, long), Parents: [][]int{{1}, make([]int, long), {1}}}
	spf.Path(between, 2)
}
