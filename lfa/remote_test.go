package lfa_test

import (
	"math"
	"math/rand/v2"
	"slices"
	"testing"

	"routing/api"
	"routing/graph"
	"routing/lfa"
)

// checkSpaces compares PSpace, QSpace and Remote for an edge with their definitions, and reports whether there is a
// remote tunnel end.
func checkSpaces(t *testing.T, g api.Graph, d [][]int, s, e int) bool {
	t.Helper()
	p, err := lfa.PSpace(g, s, e)
	if want := pSpace(g, d, s, e); err != api.OK || !slices.Equal(p, want) {
		t.Fatalf("PSpace(%v, %d, %d) = %v, %v, want %v", g, s, e, p, err, want)
	}
	q, err := lfa.QSpace(g, s, e)
	if want := qSpace(g, d, s, e); err != api.OK || !slices.Equal(q, want) {
		t.Fatalf("QSpace(%v, %d, %d) = %v, %v, want %v", g, s, e, q, err, want)
	}
	end, ok, err := lfa.Remote(g, s, e)
	if want, found := remote(g, d, s, e); err != api.OK || end != want || ok != found {
		t.Fatalf("Remote(%v, %d, %d) = %v, %v, %v, want %v, %v", g, s, e, end, ok, err, want, found)
	}
	return ok
}

// P13.3, P13.4
func TestSpaces(t *testing.T) {
	r := rand.New(rand.NewPCG(13, 3))
	ends, none := 0, 0
	for range 2000 {
		g := smallGraph(r)
		d := distances(g)
		for _, edge := range g.Edges {
			if checkSpaces(t, g, d, edge.From, edge.To) {
				ends++
			} else {
				none++
			}
		}
	}
	if ends < 1000 || none < 1000 {
		t.Error(ends, "links with a remote end,", none, "without")
	}
}

// P13.3, P13.4
func TestSpacesOfLargeGraphs(t *testing.T) {
	r := rand.New(rand.NewPCG(13, 33))
	for range 30 {
		g := largeGraph(r)
		d := distances(g)
		for range min(len(g.Edges), 3) {
			edge := g.Edges[r.IntN(len(g.Edges))]
			checkSpaces(t, g, d, edge.From, edge.To)
		}
	}
}

// P13.3, P13.4: the examples of the chapter.
func TestSpacesExamples(t *testing.T) {
	for _, c := range []struct {
		graph api.Graph
		p, q  []int
		end   int
		ok    bool
	}{
		{ring(4), []int{0, 3}, []int{1, 2}, 0, false},
		{ring(5), []int{0, 3, 4}, []int{1, 2, 3}, 3, true},
		{ring(6), []int{0, 4, 5}, []int{1, 2, 3}, 0, false},
		{api.Graph{Routers: 2, Edges: []api.Edge{{From: 0, To: 1, Cost: 1}}}, []int{0}, []int{1}, 0, false},
	} {
		p, err := lfa.PSpace(c.graph, 0, 1)
		if err != api.OK || !slices.Equal(p, c.p) {
			t.Errorf("PSpace(%v) = %v, %v", c.graph, p, err)
		}
		q, err := lfa.QSpace(c.graph, 0, 1)
		if err != api.OK || !slices.Equal(q, c.q) {
			t.Errorf("QSpace(%v) = %v, %v", c.graph, q, err)
		}
		end, ok, err := lfa.Remote(c.graph, 0, 1)
		if end != c.end || ok != c.ok || err != api.OK {
			t.Errorf("Remote(%v) = %v, %v, %v", c.graph, end, ok, err)
		}
	}
}

// P13.3, P13.4: an edge that is longer than another way is on no shortest path, so that both of its ends are in both
// spaces; s itself is no tunnel end. Nodes that are not reached, or do not reach e, are in no space.
func TestSpacesOfALongEdge(t *testing.T) {
	g := api.Graph{Routers: 5, Edges: []api.Edge{
		{From: 0, To: 1, Cost: 9}, {From: 0, To: 2, Cost: 3}, {From: 1, To: 3, Cost: 1}, {From: 2, To: 1, Cost: 1}, {From: 4, To: 0, Cost: 1},
	}}
	p, err := lfa.PSpace(g, 0, 1)
	if err != api.OK || !slices.Equal(p, []int{0, 1, 2, 3}) {
		t.Error("PSpace:", p, err)
	}
	q, err := lfa.QSpace(g, 0, 1)
	if err != api.OK || !slices.Equal(q, []int{0, 1, 2, 4}) {
		t.Error("QSpace:", q, err)
	}
	if end, ok, err := lfa.Remote(g, 0, 1); end != 2 || !ok || err != api.OK {
		t.Error("Remote:", end, ok, err)
	}
}

// P13.4: of two tunnel ends at the same distance the least counts, of others the nearest.
func TestTheBestRemoteEnd(t *testing.T) {
	star := func(cost2, cost3 int) api.Graph {
		g, err := graph.Of(4, 0,
			api.Edge{From: 0, To: 1, Cost: 1}, api.Edge{From: 0, To: 2, Cost: cost2}, api.Edge{From: 0, To: 3, Cost: cost3},
			api.Edge{From: 2, To: 1, Cost: 1}, api.Edge{From: 3, To: 1, Cost: 1})
		if err != api.OK {
			t.Fatal(err)
		}
		return g
	}
	for _, c := range []struct{ cost2, cost3, want int }{{5, 5, 2}, {5, 4, 3}, {4, 5, 2}} {
		if end, ok, err := lfa.Remote(star(c.cost2, c.cost3), 0, 1); end != c.want || !ok || err != api.OK {
			t.Errorf("%v: %v, %v, %v", c, end, ok, err)
		}
	}
}

// P13.5
func TestWalk(t *testing.T) {
	r := rand.New(rand.NewPCG(13, 5))
	arrived, stopped := 0, 0
	for i := range 3000 {
		g := smallGraph(r)
		if i%200 == 0 {
			g = largeGraph(r)
		}
		d := distances(g)
		for range 12 {
			from, to, a, b := r.IntN(g.Routers), r.IntN(g.Routers), r.IntN(g.Routers+2)-1, r.IntN(g.Routers+2)-1
			nodes, ok := lfa.Walk(g, from, to, a, b)
			if want, whole := walked(g, d, from, to, a, b); !slices.Equal(nodes, want) || ok != whole {
				t.Fatalf("Walk(%v, %d, %d, %d, %d) = %v, %v, want %v, %v", g, from, to, a, b, nodes, ok, want, whole)
			}
			if ok {
				arrived++
			} else if d[from][to] >= 0 {
				stopped++
			}
		}
	}
	if arrived < 1000 || stopped < 1000 {
		t.Error(arrived, "walks arrived,", stopped, "stopped")
	}
}

// P13.5: the cases of a ring, in both directions of the link, and numbers that are no nodes.
func TestWalkCases(t *testing.T) {
	line := api.Graph{Routers: 3, Edges: []api.Edge{{From: 0, To: 1, Cost: 1}, {From: 1, To: 2, Cost: 1}}}
	for _, c := range []struct {
		graph         api.Graph
		from, d, a, b int
		want          []int
		ok            bool
	}{
		{ring(4), 0, 2, 0, 3, []int{0, 1, 2}, true},
		{ring(4), 0, 2, 0, 1, []int{0}, false},
		{ring(4), 0, 2, 1, 0, []int{0}, false},
		{ring(4), 0, 2, 2, 1, []int{0, 1}, false},
		{ring(4), 0, 2, 0, 2, []int{0, 1, 2}, true},
		{ring(4), 0, 2, 1, 1, []int{0, 1, 2}, true},
		{ring(4), 0, 2, math.MinInt, math.MaxInt, []int{0, 1, 2}, true},
		{ring(4), 3, 3, 3, 3, []int{3}, true},
		{line, 0, 2, -1, -1, []int{0, 1, 2}, true},
		{line, 2, 0, -1, -1, []int{2}, false},
	} {
		if nodes, ok := lfa.Walk(c.graph, c.from, c.d, c.a, c.b); !slices.Equal(nodes, c.want) || ok != c.ok {
			t.Errorf("Walk(%d, %d, %d, %d) = %v, %v, want %v, %v", c.from, c.d, c.a, c.b, nodes, ok, c.want, c.ok)
		}
	}
}

// P13.2, P13.3, P13.5: the longest path, over edges of the greatest cost.
func TestLongPaths(t *testing.T) {
	chain := api.Graph{Routers: 128}
	all := []int{0}
	for node := range 127 {
		chain.Edges = append(chain.Edges, api.Edge{From: node, To: node + 1, Cost: 65535})
		all = append(all, node+1)
	}
	if nodes, ok := lfa.Walk(chain, 0, 127, -1, -1); !ok || !slices.Equal(nodes, all) {
		t.Error("Walk:", nodes, ok)
	}
	if p, err := lfa.PSpace(chain, 5, 6); err != api.OK || !slices.Equal(p, []int{5}) {
		t.Error("PSpace:", p, err)
	}
	if q, err := lfa.QSpace(chain, 5, 6); err != api.OK || !slices.Equal(q, []int{6}) {
		t.Error("QSpace:", q, err)
	}
	if l, err := lfa.All(chain, 0); err != api.OK || len(l) != 0 {
		t.Error("All:", l, err)
	}
}

// P13.2 to P13.5: the edges of the argument are left as they are, with what lies behind their end.
func TestMemory(t *testing.T) {
	r := rand.New(rand.NewPCG(13, 8))
	for range 200 {
		g := smallGraph(r)
		extra := api.Edge{From: 77, To: 77, Cost: 77}
		edges := slices.Concat(g.Edges, []api.Edge{extra, extra})
		g.Edges = slices.Clone(edges)[:len(g.Edges)]
		for _, e := range g.Edges {
			checkSpaces(t, g, distances(g), e.From, e.To)
			lfa.Walk(g, e.From, e.To, e.From, e.To)
			alternates(t, g, e.From)
		}
		if !slices.Equal(g.Edges[:len(edges)], edges) {
			t.Fatal("the edges of the argument were changed")
		}
	}
}
