package ispf_test

import (
	"math"
	"math/rand/v2"
	"slices"
	"testing"

	"routing/api"
	"routing/graph"
	"routing/ispf"
	"routing/spf"
)

// update is Update with its results in one value.
func update(g api.Graph, tree api.Tree, changes ...api.Change) outcome {
	h, u, altered, err := ispf.Update(g, tree, changes...)
	return outcome{h, u, altered, err}
}

// P12.1
func TestUpdate(t *testing.T) {
	r := rand.New(rand.NewPCG(12, 1))
	for range 20000 {
		g := smallGraph(r)
		tree := run(t, g, r.IntN(g.Routers))
		changes := anyChanges(r, g, r.IntN(6), 4)
		want := updated(t, g, tree, changes)
		if got := update(g, tree, changes...); !got.same(want) {
			t.Fatalf("Update(%v, %v, %v) = %v, want %v", g, tree, changes, got, want)
		}
	}
}

// P12.1: every single change of every edge, between all costs.
func TestUpdateByOneChange(t *testing.T) {
	r := rand.New(rand.NewPCG(12, 11))
	for range 60 {
		g := anyGraph(r, 2+r.IntN(4), r.IntN(3), r.IntN(24), 3)
		tree := run(t, g, r.IntN(g.Routers))
		for from := range g.Routers + g.Nets {
			for to := range g.Routers + g.Nets {
				for cost := -1; cost <= 4; cost++ {
					c := api.Change{From: from, To: to, Cost: cost}
					want := updated(t, g, tree, []api.Change{c})
					if got := update(g, tree, c); !got.same(want) {
						t.Fatalf("Update(%v, %v, %v) = %v, want %v", g, tree, c, got, want)
					}
				}
			}
		}
	}
}

// P12.4, W2: after each step of a long sequence, and in all steps at once.
func TestSequences(t *testing.T) {
	r := rand.New(rand.NewPCG(12, 4))
	for range 40 {
		routers := 2 + r.IntN(127)
		nets := r.IntN(129 - routers)
		dear := []int{1, 3, 20, 65535}[r.IntN(4)]
		first := anyGraph(r, routers, nets, r.IntN(8*(routers+nets))%1024, dear)
		firstTree := run(t, first, r.IntN(routers))
		g, tree, altered := first, firstTree, 0
		changes := anyChanges(r, g, 100, dear)
		for rest := changes; len(rest) > 0; {
			step := 1 + r.IntN(min(len(rest), 5))
			want := updated(t, g, tree, rest[:step])
			got := update(g, tree, rest[:step]...)
			if !got.same(want) {
				t.Fatalf("Update(%v, %v, %v) = %v, want %v", g, tree, rest[:step], got, want)
			}
			g, tree, altered, rest = got.graph, got.tree, altered+got.altered, rest[step:]
		}
		if got := update(first, firstTree, changes...); !got.same(outcome{graph: g, tree: tree, altered: altered}) {
			t.Fatalf("all changes of %v at once: %v", first, got)
		}
	}
}

// P12.1: the examples of the chapter.
func TestUpdateExamples(t *testing.T) {
	line := api.Graph{Routers: 3, Edges: []api.Edge{{From: 0, To: 1, Cost: 1}, {From: 1, To: 0, Cost: 1}, {From: 1, To: 2, Cost: 1}, {From: 2, To: 1, Cost: 1}}}
	tree := run(t, line, 0)
	even := update(line, tree, api.Change{From: 0, To: 2, Cost: 2})
	if even.err != api.OK || even.altered != 0 || !slices.Equal(even.tree.Hops[2], []int{1, 2}) || !slices.Equal(even.tree.Parents[2], []int{0, 1}) {
		t.Error("with cost 2:", even)
	}
	less := update(line, tree, api.Change{From: 0, To: 2, Cost: 1})
	if less.err != api.OK || less.altered != 1 || !slices.Equal(less.tree.Dist, []int{0, 1, 1}) || len(less.graph.Edges) != 5 {
		t.Error("with cost 1:", less)
	}
	if none := update(line, tree); !none.same(outcome{graph: line, tree: tree}) {
		t.Error("without changes:", none)
	}
	back := update(line, tree, api.Change{From: 1, To: 2, Cost: -1}, api.Change{From: 1, To: 2, Cost: 1})
	if !back.same(outcome{graph: line, tree: tree, altered: 2}) {
		t.Error("an edge removed and put back:", back)
	}
}

// P12.1: new first hops are passed on over nodes whose parents remain the same.
func TestHopsFarFromTheChange(t *testing.T) {
	g := api.Graph{Routers: 128, Edges: []api.Edge{{From: 0, To: 1, Cost: 1}, {From: 0, To: 2, Cost: 1}, {From: 1, To: 3, Cost: 1}, {From: 2, To: 3, Cost: 2}}}
	for node := 3; node < 127; node++ {
		g.Edges = append(g.Edges, api.Edge{From: node, To: node + 1, Cost: 65535})
	}
	tree := run(t, g, 0)
	if !slices.Equal(tree.Hops[127], []int{1}) {
		t.Fatal("first hops:", tree.Hops[127])
	}
	both := update(g, tree, api.Change{From: 2, To: 3, Cost: 1})
	if both.err != api.OK || both.altered != 0 || !slices.Equal(both.tree.Hops[127], []int{1, 2}) || !slices.Equal(both.tree.Parents[127], []int{126}) {
		t.Error("over both:", both.altered, both.tree.Hops[127], both.tree.Parents[127])
	}
	other := update(both.graph, both.tree, api.Change{From: 1, To: 3, Cost: -1})
	if other.err != api.OK || other.altered != 0 || !slices.Equal(other.tree.Hops[127], []int{2}) {
		t.Error("over the other one:", other.altered, other.tree.Hops[127])
	}
	cut := update(other.graph, other.tree, api.Change{From: 2, To: 3, Cost: -1})
	if cut.err != api.OK || cut.altered != 125 || cut.tree.Dist[3] != -1 || cut.tree.Dist[127] != -1 || len(cut.tree.Hops[127]) != 0 || len(cut.tree.Parents[127]) != 0 {
		t.Error("over none:", cut.altered, cut.tree.Dist[127], cut.tree.Hops[127])
	}
}

// P12.1: the errors of the graph, of the tree and of the changes, in this order.
func TestUpdateErrors(t *testing.T) {
	lan := api.Graph{Routers: 2, Nets: 1, Edges: []api.Edge{{From: 0, To: 2, Cost: 3}, {From: 2, To: 1}}}
	tree := run(t, lan, 0)
	wrong := run(t, lan, 1)
	wrong.Dist[0] = 3
	network := api.Tree{Root: 2, Dist: []int{-1, 0, 0}, Hops: [][]int{nil, {1}, nil}, Parents: [][]int{nil, {2}, nil}}
	long := tree
	long.Hops = append(slices.Clone(long.Hops), nil)
	bad := api.Change{From: 0, To: 1, Cost: -1}
	for _, c := range []struct {
		graph   api.Graph
		tree    api.Tree
		changes []api.Change
		want    api.Errno
	}{
		{lan, tree, nil, api.OK},
		{api.Graph{Routers: -1}, wrong, []api.Change{bad}, api.ErrRange},
		{api.Graph{Routers: 129}, wrong, []api.Change{bad}, api.ErrTooLong},
		{api.Graph{Routers: 2, Edges: []api.Edge{{From: 0, To: 1}}}, tree, nil, api.ErrInvalid},
		{api.Graph{Routers: 2, Edges: []api.Edge{{From: 1, To: 0, Cost: 1}, {From: 0, To: 1, Cost: 1}}}, tree, []api.Change{bad}, api.ErrOrder},
		{lan, wrong, nil, api.ErrInvalid},
		{lan, wrong, []api.Change{bad}, api.ErrInvalid},
		{lan, api.Tree{}, []api.Change{bad}, api.ErrInvalid},
		{lan, network, nil, api.ErrInvalid},
		{lan, long, nil, api.ErrInvalid},
		{lan, api.Tree{Root: math.MinInt, Dist: tree.Dist, Hops: tree.Hops, Parents: tree.Parents}, nil, api.ErrInvalid},
		{api.Graph{}, api.Tree{}, nil, api.ErrInvalid},
		{api.Graph{Routers: 2, Nets: 1}, tree, nil, api.ErrInvalid},
		{lan, tree, []api.Change{bad}, api.ErrNotFound},
		{lan, tree, []api.Change{{From: 0, To: 3, Cost: 1}, bad}, api.ErrRange},
		{lan, tree, []api.Change{{From: math.MinInt, To: math.MaxInt, Cost: -1}}, api.ErrRange},
		{lan, tree, []api.Change{{From: 0, To: 1, Cost: 0}, bad}, api.ErrInvalid},
		{lan, tree, []api.Change{{From: 0, To: 1, Cost: 65536}}, api.ErrInvalid},
		{lan, tree, []api.Change{{From: 0, To: 1, Cost: math.MaxInt}}, api.ErrInvalid},
		{lan, tree, []api.Change{{From: 2, To: 1, Cost: 1}}, api.ErrInvalid},
		{lan, tree, []api.Change{{From: 0, To: 1, Cost: 65535}, {From: 0, To: 1, Cost: math.MinInt}}, api.OK},
		{lan, tree, []api.Change{{From: 0, To: 1, Cost: 1}, bad, bad}, api.ErrNotFound},
	} {
		got := update(c.graph, c.tree, c.changes...)
		if got.err != c.want {
			t.Errorf("Update(%v, %v, %v) = %v, want %v", c.graph, c.tree, c.changes, got.err, c.want)
		}
		if c.want != api.OK && !got.same(outcome{err: c.want}) {
			t.Errorf("Update(%v, %v, %v) = %v", c.graph, c.tree, c.changes, got)
		}
	}
}

// fullGraph returns a valid graph with 1024 edges.
func fullGraph(r *rand.Rand) api.Graph {
	g := anyGraph(r, 100, 28, 1024, 9)
	for len(g.Edges) < 1024 {
		g, _ = graph.Apply(g, api.Change(anyEdge(r, 100, 28, 9)))
	}
	return g
}

// missingEdge returns an allowed edge between nodes without one.
func missingEdge(r *rand.Rand, g api.Graph) api.Edge {
	for {
		e := anyEdge(r, g.Routers, g.Nets, 9)
		if _, there := graph.Cost(g, e.From, e.To); !there {
			return e
		}
	}
}

// P12.1: graphs with as many edges as there may be.
func TestUpdateOfFullGraphs(t *testing.T) {
	r := rand.New(rand.NewPCG(12, 12))
	g := fullGraph(r)
	tree := run(t, g, 50)
	fresh := api.Change(missingEdge(r, g))
	if got := update(g, tree, fresh); !got.same(outcome{err: api.ErrTooLong}) {
		t.Error("one more edge:", got.err)
	}
	changes := []api.Change{{From: g.Edges[500].From, To: g.Edges[500].To, Cost: -1}, fresh}
	if got := update(g, tree, changes...); got.err != api.OK || !got.same(updated(t, g, tree, changes)) {
		t.Error("one edge in place of another:", got.err)
	}
	var away, back []api.Change
	for _, i := range r.Perm(1024) {
		e := g.Edges[i]
		away, back = append(away, api.Change{From: e.From, To: e.To, Cost: -1}), append(back, api.Change(e))
	}
	bare := update(g, tree, away...)
	if bare.err != api.OK || len(bare.graph.Edges) != 0 || !bare.same(updated(t, g, tree, away)) {
		t.Error("all edges removed:", bare.err)
	}
	whole := update(bare.graph, bare.tree, back...)
	if !sameGraph(whole.graph, g) || !spf.Same(whole.tree, tree) || !whole.same(updated(t, bare.graph, bare.tree, back)) {
		t.Error("all edges put back:", whole.err)
	}
}

// P12.6
func TestChangesThatAlterNoDistance(t *testing.T) {
	r := rand.New(rand.NewPCG(12, 6))
	none, otherHops := 0, 0
	for range 20000 {
		g := smallGraph(r)
		tree := run(t, g, r.IntN(g.Routers))
		got := update(g, tree, anyChange(r, g, 4))
		if got.err != api.OK {
			t.Fatal(got.err)
		}
		equal := slices.Equal(got.tree.Dist, tree.Dist)
		if equal != (got.altered == 0) {
			t.Fatalf("%d altered from %v to %v", got.altered, tree.Dist, got.tree.Dist)
		}
		if equal {
			none++
		}
		if equal && !spf.Same(got.tree, tree) {
			otherHops++
		}
	}
	if none < 5000 || otherHops < 500 {
		t.Errorf("only %d changes altered no distance, %d of them hops or parents", none, otherHops)
	}
}

// apart fails if two of the lists share memory, including what lies behind their ends.
func apart(t *testing.T, lists ...[]int) {
	t.Helper()
	for i, l := range lists {
		l = l[:cap(l)]
		for j := range l {
			l[j] = -7 - i
		}
	}
	for i, l := range lists {
		for _, x := range l[:cap(l)] {
			if x != -7-i {
				t.Fatal("two lists share memory")
			}
		}
	}
}

// P12.1: the results are memory of their own, and the arguments are left as they are.
func TestMemory(t *testing.T) {
	r := rand.New(rand.NewPCG(12, 5))
	for i := range 500 {
		g := smallGraph(r)
		tree := run(t, g, r.IntN(g.Routers))
		changes := anyChanges(r, g, i%4, 4)
		edges, given := slices.Clone(g.Edges), slices.Clone(changes)
		got := update(g, tree, changes...)
		if !slices.Equal(g.Edges, edges) || !slices.Equal(changes, given) || !spf.Check(g, tree) {
			t.Fatal("an argument was changed")
		}
		for j := range got.graph.Edges {
			got.graph.Edges[j] = api.Edge{From: 77}
		}
		if !slices.Equal(g.Edges, edges) {
			t.Fatal("both graphs share their edges")
		}
		apart(t, slices.Concat([][]int{tree.Dist, got.tree.Dist}, tree.Hops, tree.Parents, got.tree.Hops, got.tree.Parents)...)
	}
}
