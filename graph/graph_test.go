package graph_test

import (
	"math"
	"math/rand/v2"
	"slices"
	"testing"

	"routing/api"
	"routing/graph"
)

// full returns a graph with the largest numbers of nodes and edges.
func full() api.Graph {
	g := api.Graph{Routers: 100, Nets: 28}
	for from := range 128 {
		for to := range 128 {
			e := api.Edge{From: from, To: to}
			if from < 100 {
				e.Cost = 65535
			}
			if isAllowed(g, e) && (from+to)%12 == 0 && len(g.Edges) < 1024 {
				g.Edges = append(g.Edges, e)
			}
		}
	}
	return g
}

// P9.1
func TestCheck(t *testing.T) {
	edge := func(from, to, cost int) api.Edge { return api.Edge{From: from, To: to, Cost: cost} }
	of := func(routers, nets int, edges ...api.Edge) api.Graph {
		return api.Graph{Routers: routers, Nets: nets, Edges: edges}
	}
	many := slices.Repeat([]api.Edge{edge(9, 9, 9)}, 1025)
	for _, c := range []struct {
		g    api.Graph
		want api.Errno
	}{
		{of(2, 1, edge(0, 1, 5), edge(0, 2, 3), edge(2, 1, 0)), api.OK},
		{of(2, 1, edge(0, 1, 5), edge(0, 2, 3), edge(2, 1, 1)), api.ErrInvalid},
		{of(0, 0), api.OK},
		{of(0, 128), api.OK},
		{of(128, 0), api.OK},
		{of(-1, 0), api.ErrRange},
		{of(0, -1), api.ErrRange},
		{of(-1, 200), api.ErrRange},
		{of(200, -1), api.ErrRange},
		{of(-1, 0, many...), api.ErrRange},
		{of(128, 1), api.ErrTooLong},
		{of(1, 128), api.ErrTooLong},
		{of(129, 0), api.ErrTooLong},
		{of(0, 129), api.ErrTooLong},
		{of(math.MaxInt, math.MaxInt), api.ErrTooLong},
		{of(math.MaxInt, 1), api.ErrTooLong},
		{of(1, math.MaxInt), api.ErrTooLong},
		{of(math.MinInt, math.MinInt), api.ErrRange},
		{of(1, 1, many...), api.ErrTooLong},
		{of(1, 1, many[:1024]...), api.ErrRange},
		{full(), api.OK},
		{of(0, 0, edge(0, 0, 0)), api.ErrRange},
		{of(2, 1, edge(0, 3, 1)), api.ErrRange},
		{of(2, 1, edge(3, 0, 0)), api.ErrRange},
		{of(2, 1, edge(-1, 0, 1)), api.ErrRange},
		{of(2, 1, edge(0, -1, 1)), api.ErrRange},
		{of(2, 1, edge(math.MinInt, math.MaxInt, 1)), api.ErrRange},
		{of(2, 1, edge(4, 4, 1)), api.ErrRange},
		{of(2, 1, edge(1, 1, 1)), api.ErrInvalid},
		{of(2, 1, edge(2, 2, 0)), api.ErrInvalid},
		{of(2, 2, edge(2, 3, 0)), api.ErrInvalid},
		{of(2, 2, edge(2, 3, 1)), api.ErrInvalid},
		{of(2, 1, edge(0, 1, 0)), api.ErrInvalid},
		{of(2, 1, edge(0, 2, 0)), api.ErrInvalid},
		{of(2, 1, edge(0, 2, -1)), api.ErrInvalid},
		{of(2, 1, edge(0, 1, 1)), api.OK},
		{of(2, 1, edge(0, 1, 65535)), api.OK},
		{of(2, 1, edge(0, 1, 65536)), api.ErrInvalid},
		{of(2, 1, edge(0, 1, math.MaxInt)), api.ErrInvalid},
		{of(2, 1, edge(2, 0, -1)), api.ErrInvalid},
		{of(2, 1, edge(2, 0, 65535)), api.ErrInvalid},
		{of(3, 0, edge(0, 2, 1), edge(0, 1, 1)), api.ErrOrder},
		{of(3, 0, edge(1, 0, 1), edge(0, 1, 1)), api.ErrOrder},
		{of(3, 0, edge(0, 1, 1), edge(0, 1, 1)), api.ErrOrder},
		{of(3, 0, edge(0, 1, 1), edge(0, 1, 2)), api.ErrOrder},
		{of(3, 0, edge(0, 2, 9), edge(1, 0, 1)), api.OK},
		{of(3, 0, edge(1, 0, 1), edge(0, 0, 1)), api.ErrInvalid},
		{of(3, 0, edge(1, 0, 1), edge(0, 3, 1)), api.ErrRange},
		{of(3, 0, edge(1, 0, 1), edge(0, 1, 1), edge(0, 3, 1)), api.ErrOrder},
		{of(3, 0, edge(1, 0, 0), edge(0, 3, 1)), api.ErrInvalid},
	} {
		if err := graph.Check(c.g); err != c.want {
			t.Errorf("Check(%v) = %v, want %v", c.g, err, c.want)
		}
		if err := check(c.g); err != c.want {
			t.Errorf("the test's own check of %v is %v, want %v", c.g, err, c.want)
		}
	}
}

// P9.1
func TestCheckAny(t *testing.T) {
	r := rand.New(rand.NewPCG(9, 1))
	found := map[api.Errno]int{}
	for range 20000 {
		g := validGraph(r, r.IntN(4), r.IntN(3), 1+r.IntN(3))
		if r.IntN(4) > 0 && len(g.Edges) > 0 {
			i := r.IntN(len(g.Edges))
			g.Edges[i] = anyEdges(r, 1)[0]
		}
		want := check(g)
		found[want]++
		if err := graph.Check(g); err != want {
			t.Fatalf("Check(%v) = %v, want %v", g, err, want)
		}
	}
	for _, err := range []api.Errno{api.OK, api.ErrRange, api.ErrInvalid, api.ErrOrder} {
		if found[err] < 100 {
			t.Errorf("only %d graphs with %v", found[err], err)
		}
	}
}

// P9.2
func TestCostAndNext(t *testing.T) {
	r := rand.New(rand.NewPCG(9, 2))
	for range 3000 {
		g := api.Graph{Routers: r.IntN(5) - 1, Nets: r.IntN(3) - 1, Edges: anyEdges(r, r.IntN(12))}
		for from := -2; from < 6; from++ {
			var next []int
			for to := -2; to < 6; to++ {
				cost, there := 0, false
				for _, e := range g.Edges {
					if e.From == from && e.To == to && !there {
						cost, there = e.Cost, true
					}
				}
				if there {
					next = append(next, to)
				}
				if c, ok := graph.Cost(g, from, to); c != cost || ok != there {
					t.Fatalf("Cost(%v, %d, %d) = %d, %v, want %d, %v", g, from, to, c, ok, cost, there)
				}
			}
			if l := graph.Next(g, from); !slices.Equal(l, next) {
				t.Fatalf("Next(%v, %d) = %v, want %v", g, from, l, next)
			}
		}
	}
}

// P9.2
func TestCostAndNextOfLargeNumbers(t *testing.T) {
	far := api.Edge{From: math.MinInt, To: math.MaxInt, Cost: math.MinInt}
	g := api.Graph{Routers: -1, Edges: []api.Edge{far, {From: math.MinInt, To: math.MinInt}, far}}
	if c, ok := graph.Cost(g, math.MinInt, math.MaxInt); c != math.MinInt || !ok {
		t.Error("Cost", c, ok)
	}
	if l := graph.Next(g, math.MinInt); !slices.Equal(l, []int{math.MinInt, math.MaxInt}) {
		t.Error("Next", l)
	}
	if c, ok := graph.Cost(api.Graph{}, 0, 0); c != 0 || ok {
		t.Error("Cost of nothing", c, ok)
	}
	if l := graph.Next(api.Graph{}, 0); len(l) != 0 {
		t.Error("Next of nothing", l)
	}
}

// P9.5, P9.8
func TestReach(t *testing.T) {
	r := rand.New(rand.NewPCG(9, 5))
	for range 1500 {
		g := validGraph(r, r.IntN(8), r.IntN(5), 1+r.IntN(12))
		want := paths(g)
		for from := range g.Routers + g.Nets {
			reached := graph.Reach(g, from)
			if !slices.Equal(reached, want[from]) {
				t.Fatalf("Reach(%v, %d) = %v, want %v", g, from, reached, want[from])
			}
			for _, e := range g.Edges {
				if reached[e.From] && !reached[e.To] {
					t.Fatalf("Reach(%v, %d) = %v stops at %d", g, from, reached, e.From)
				}
			}
		}
		for _, from := range []int{-1, g.Routers + g.Nets, math.MinInt, math.MaxInt} {
			if reached := graph.Reach(g, from); len(reached) != 0 {
				t.Fatalf("Reach(%v, %d) = %v", g, from, reached)
			}
		}
	}
}

// P9.5
func TestReachOfOtherGraphs(t *testing.T) {
	g := api.Graph{Routers: 2, Nets: 1, Edges: []api.Edge{{From: 0, To: 1, Cost: 5}, {From: 0, To: 2, Cost: 3}, {From: 2, To: 1}}}
	if l := graph.Reach(g, 0); !slices.Equal(l, []bool{true, true, true}) {
		t.Error("from 0:", l)
	}
	if l := graph.Reach(g, 1); !slices.Equal(l, []bool{false, true, false}) {
		t.Error("from 1:", l)
	}
	g.Edges[2].Cost = 1
	if l := graph.Reach(g, 0); len(l) != 0 {
		t.Error("an invalid graph:", l)
	}
	if l := graph.Reach(api.Graph{Routers: -1, Nets: 3}, 0); len(l) != 0 {
		t.Error("a negative number of routers:", l)
	}
	if l := graph.Reach(full(), 0); !slices.Equal(l, paths(full())[0]) {
		t.Error("a full graph:", l)
	}
	chain := api.Graph{Routers: 128}
	for node := range 127 {
		chain.Edges = append(chain.Edges, api.Edge{From: node, To: node + 1, Cost: 1})
	}
	if l := graph.Reach(chain, 1); len(l) != 128 || l[0] || slices.Contains(l[1:], false) {
		t.Error("a chain:", l)
	}
}
