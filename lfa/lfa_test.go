package lfa_test

import (
	"math"
	"math/rand/v2"
	"slices"
	"testing"

	"routing/api"
	"routing/lfa"
)

// alternates returns the alternates of a root that All accepts.
func alternates(t *testing.T, g api.Graph, root int) []api.Alternate {
	t.Helper()
	l, err := lfa.All(g, root)
	if err != api.OK {
		t.Fatalf("All(%v, %d) = %v", g, root, err)
	}
	return l
}

// P13.2
func TestAll(t *testing.T) {
	r := rand.New(rand.NewPCG(13, 2))
	counts := map[api.Alternate]int{}
	for range 6000 {
		g := smallGraph(r)
		for root := range g.Routers {
			l, want := alternates(t, g, root), defined(g, root)
			if !slices.Equal(l, want) {
				t.Fatalf("All(%v, %d) = %v, want %v", g, root, l, want)
			}
			for _, a := range l {
				counts[api.Alternate{Kind: a.Kind, Downstream: a.Downstream}]++
			}
		}
	}
	for _, kind := range []int{api.AltLink, api.AltNode} {
		for _, down := range []bool{false, true} {
			if n := counts[api.Alternate{Kind: kind, Downstream: down}]; n < 1000 {
				t.Errorf("only %d alternates of kind %d, downstream %v", n, kind, down)
			}
		}
	}
}

// P13.2
func TestAllOfLargeGraphs(t *testing.T) {
	r := rand.New(rand.NewPCG(13, 22))
	for range 25 {
		g := largeGraph(r)
		root := r.IntN(g.Routers)
		if l, want := alternates(t, g, root), defined(g, root); !slices.Equal(l, want) {
			t.Fatalf("All(%v, %d) = %v, want %v", g, root, l, want)
		}
	}
}

// P13.2: the examples of the chapter.
func TestAllExamples(t *testing.T) {
	want := []api.Alternate{
		{Dest: 2, Primary: 1, Via: 3, Kind: api.AltNode, Downstream: true},
		{Dest: 2, Primary: 3, Via: 1, Kind: api.AltNode, Downstream: true},
	}
	if l := alternates(t, ring(4), 0); !slices.Equal(l, want) {
		t.Error("ring:", l)
	}
	if l := alternates(t, api.Graph{Routers: 1}, 0); len(l) != 0 {
		t.Error("one router:", l)
	}
	want = []api.Alternate{
		{Dest: 1, Primary: 0, Via: 3, Kind: api.AltNode},
		{Dest: 2, Primary: 3, Via: 0, Kind: api.AltNode},
	}
	if l := alternates(t, ring(5), 4); !slices.Equal(l, want) {
		t.Error("ring of five:", l)
	}
}

// toTarget returns a graph in which router 0 reaches router 4 over 1; the ways over 2 and 3 have these costs, a cost
// of 0 standing for no edge. Router 1 is reached from 2 and 3 at these costs.
func toTarget(cost [2]int, last [2]int, back [2]int) api.Graph {
	g := api.Graph{Routers: 5}
	add := func(from, to, cost int) {
		if cost > 0 {
			g.Edges = append(g.Edges, api.Edge{From: from, To: to, Cost: cost})
		}
	}
	add(0, 1, 1)
	add(0, 2, cost[0])
	add(0, 3, cost[1])
	add(1, 4, 1)
	add(2, 1, back[0])
	add(2, 4, last[0])
	add(3, 1, back[1])
	add(3, 4, last[1])
	return g
}

// P13.2: the kind comes first, then the cost over the alternate, then its number.
func TestTheBestAlternate(t *testing.T) {
	for _, c := range []struct {
		cost, last, back [2]int
		via, kind        int
	}{
		{[2]int{5, 5}, [2]int{5, 5}, [2]int{}, 2, api.AltNode},
		{[2]int{5, 5}, [2]int{5, 4}, [2]int{}, 3, api.AltNode},
		{[2]int{5, 4}, [2]int{5, 5}, [2]int{}, 3, api.AltNode},
		{[2]int{4, 5}, [2]int{6, 5}, [2]int{}, 2, api.AltNode},
		{[2]int{5, 9}, [2]int{0, 9}, [2]int{1, 0}, 3, api.AltNode},
		{[2]int{2, 9}, [2]int{2, 9}, [2]int{1, 0}, 3, api.AltNode},
		{[2]int{5, 5}, [2]int{0, 0}, [2]int{2, 1}, 3, api.AltLink},
		{[2]int{5, 5}, [2]int{0, 0}, [2]int{2, 2}, 2, api.AltLink},
		{[2]int{5, 5}, [2]int{0, 2}, [2]int{1, 1}, 2, api.AltLink},
	} {
		l := alternates(t, toTarget(c.cost, c.last, c.back), 0)
		at := slices.IndexFunc(l, func(a api.Alternate) bool { return a.Dest == 4 && a.Primary == 1 })
		if at < 0 || l[at].Via != c.via || l[at].Kind != c.kind {
			t.Errorf("%v: %v", c, l)
		}
	}
	if l := alternates(t, toTarget([2]int{5, 0}, [2]int{}, [2]int{}), 0); len(l) != 0 {
		t.Error("a neighbor that reaches nothing:", l)
	}
}

// P13.2: the destination itself can be the alternate, but the primary next hop protects no node behind itself.
func TestAlternateToTheDestination(t *testing.T) {
	g := api.Graph{Routers: 3, Edges: []api.Edge{{From: 0, To: 1, Cost: 1}, {From: 0, To: 2, Cost: 9}, {From: 1, To: 2, Cost: 1}, {From: 2, To: 1, Cost: 1}}}
	want := []api.Alternate{
		{Dest: 1, Primary: 1, Via: 2, Kind: api.AltLink},
		{Dest: 2, Primary: 1, Via: 2, Kind: api.AltNode, Downstream: true},
	}
	if l := alternates(t, g, 0); !slices.Equal(l, want) {
		t.Error(l)
	}
}

// wrongGraph is a graph that no function accepts, with the error.
type wrongGraph struct {
	graph api.Graph
	err   api.Errno
}

func wrongGraphs() []wrongGraph {
	return []wrongGraph{
		{api.Graph{Routers: -1}, api.ErrRange},
		{api.Graph{Routers: 2, Nets: -1}, api.ErrRange},
		{api.Graph{Routers: math.MinInt, Nets: math.MaxInt}, api.ErrRange},
		{api.Graph{Routers: 129}, api.ErrTooLong},
		{api.Graph{Routers: 128, Nets: 1}, api.ErrTooLong},
		{api.Graph{Routers: math.MaxInt, Nets: math.MaxInt}, api.ErrTooLong},
		{api.Graph{Routers: 2, Edges: make([]api.Edge, 1025)}, api.ErrTooLong},
		{api.Graph{Routers: 2, Edges: []api.Edge{{From: 0, To: 2, Cost: 1}}}, api.ErrRange},
		{api.Graph{Routers: 2, Edges: []api.Edge{{From: 0, To: 1}}}, api.ErrInvalid},
		{api.Graph{Routers: 2, Edges: []api.Edge{{From: 0, To: 1, Cost: 65536}}}, api.ErrInvalid},
		{api.Graph{Routers: 2, Nets: 1, Edges: []api.Edge{{From: 2, To: 1, Cost: 1}}}, api.ErrInvalid},
		{api.Graph{Routers: 2, Edges: []api.Edge{{From: 1, To: 0, Cost: 1}, {From: 0, To: 1, Cost: 1}}}, api.ErrOrder},
		{api.Graph{Routers: 2, Nets: 1, Edges: []api.Edge{{From: 0, To: 1, Cost: 1}}}, api.ErrKind},
		{api.Graph{Nets: 1}, api.ErrKind},
	}
}

// P13.2, P13.3, P13.4, P13.5: the error of the graph comes first, then networks, then the nodes.
func TestWrongGraphs(t *testing.T) {
	for _, w := range wrongGraphs() {
		for _, node := range []int{0, -1, 1000, math.MinInt} {
			if l, err := lfa.All(w.graph, node); err != w.err || len(l) != 0 {
				t.Errorf("All(%d routers, %d nets, %d) = %v, %v, want %v", w.graph.Routers, w.graph.Nets, node, l, err, w.err)
			}
			if l, err := lfa.PSpace(w.graph, node, 1); err != w.err || len(l) != 0 {
				t.Errorf("PSpace(%d routers, %d nets, %d, 1) = %v, %v, want %v", w.graph.Routers, w.graph.Nets, node, l, err, w.err)
			}
			if l, err := lfa.QSpace(w.graph, node, 1); err != w.err || len(l) != 0 {
				t.Errorf("QSpace(%d routers, %d nets, %d, 1) = %v, %v, want %v", w.graph.Routers, w.graph.Nets, node, l, err, w.err)
			}
			if end, ok, err := lfa.Remote(w.graph, node, 1); err != w.err || ok || end != 0 {
				t.Errorf("Remote(%d routers, %d nets, %d, 1) = %v, %v, %v, want %v", w.graph.Routers, w.graph.Nets, node, end, ok, err, w.err)
			}
			if l, ok := lfa.Walk(w.graph, node, node, 0, 1); ok || len(l) != 0 {
				t.Errorf("Walk(%d routers, %d nets, %d, %d, 0, 1) = %v, %v", w.graph.Routers, w.graph.Nets, node, node, l, ok)
			}
		}
	}
}

// P13.2, P13.3, P13.4, P13.5
func TestWrongNodes(t *testing.T) {
	for _, node := range []int{-1, 4, 128, math.MinInt, math.MaxInt} {
		if l, err := lfa.All(ring(4), node); err != api.ErrRange || len(l) != 0 {
			t.Errorf("All(%d) = %v, %v", node, l, err)
		}
		for _, pair := range [][2]int{{node, 1}, {1, node}, {node, node}} {
			wrongLink(t, ring(4), pair[0], pair[1], api.ErrRange)
			if l, ok := lfa.Walk(ring(4), pair[0], pair[1], 0, 1); ok || len(l) != 0 {
				t.Errorf("Walk(%d, %d) = %v, %v", pair[0], pair[1], l, ok)
			}
		}
	}
	wrongLink(t, ring(4), 0, 2, api.ErrNotFound)
	wrongLink(t, ring(4), 1, 1, api.ErrNotFound)
	oneWay := api.Graph{Routers: 2, Edges: []api.Edge{{From: 0, To: 1, Cost: 1}}}
	wrongLink(t, oneWay, 1, 0, api.ErrNotFound)
	if l, err := lfa.All(api.Graph{}, 0); err != api.ErrRange || len(l) != 0 {
		t.Error("All without routers:", l, err)
	}
	if l, ok := lfa.Walk(api.Graph{}, 0, 0, 0, 0); ok || len(l) != 0 {
		t.Error("Walk without routers:", l, ok)
	}
}

// wrongLink fails unless PSpace, QSpace and Remote return this error for a link.
func wrongLink(t *testing.T, g api.Graph, s, e int, want api.Errno) {
	t.Helper()
	if l, err := lfa.PSpace(g, s, e); err != want || len(l) != 0 {
		t.Errorf("PSpace(%d, %d) = %v, %v, want %v", s, e, l, err, want)
	}
	if l, err := lfa.QSpace(g, s, e); err != want || len(l) != 0 {
		t.Errorf("QSpace(%d, %d) = %v, %v, want %v", s, e, l, err, want)
	}
	if end, ok, err := lfa.Remote(g, s, e); err != want || ok || end != 0 {
		t.Errorf("Remote(%d, %d) = %v, %v, %v, want %v", s, e, end, ok, err, want)
	}
}

// P13.6, W3: all next hops on the way from an alternate to the destination avoid the root, so that a packet arrives
// without using the failed link, and avoid the primary next hop if that is protected.
func TestAlternatesWork(t *testing.T) {
	r := rand.New(rand.NewPCG(13, 6))
	counts := map[int]int{}
	for i := range 2500 {
		g := smallGraph(r)
		if i%250 == 0 {
			g = largeGraph(r)
		}
		d := distances(g)
		root := r.IntN(g.Routers)
		for _, a := range alternates(t, g, root) {
			nodes := passed(g, d, a.Via, a.Dest)
			if !slices.Contains(nodes, a.Dest) || slices.Contains(nodes, root) {
				t.Fatalf("alternate %v of %d in %v: %v", a, root, g, nodes)
			}
			if a.Kind == api.AltNode && slices.Contains(nodes, a.Primary) {
				t.Fatalf("alternate %v of %d in %v: %v", a, root, g, nodes)
			}
			way, ok := lfa.Walk(g, a.Via, a.Dest, root, a.Primary)
			if !ok || slices.Contains(way, root) || a.Kind == api.AltNode && slices.Contains(way, a.Primary) {
				t.Fatalf("alternate %v of %d in %v: %v, %v", a, root, g, way, ok)
			}
			counts[a.Kind]++
		}
	}
	if counts[api.AltLink] < 1000 || counts[api.AltNode] < 1000 {
		t.Error("too few alternates:", counts)
	}
}

// P13.7: wherever a packet is sent to a next hop or to a downstream alternate, it comes nearer to its destination and
// so never back to a node.
func TestDownstreamAlternates(t *testing.T) {
	r := rand.New(rand.NewPCG(13, 7))
	sent := 0
	for range 1500 {
		g := smallGraph(r)
		d := distances(g)
		onward := map[[2]int][]int{}
		for root := range g.Routers {
			for dest := range g.Routers {
				onward[[2]int{root, dest}] = nextHops(g, d, root, dest)
			}
			for _, a := range alternates(t, g, root) {
				if a.Downstream {
					onward[[2]int{root, a.Dest}] = append(onward[[2]int{root, a.Dest}], a.Via)
					sent++
				}
			}
		}
		for pair, nodes := range onward {
			for _, node := range nodes {
				if d[node][pair[1]] < 0 || d[node][pair[1]] >= d[pair[0]][pair[1]] {
					t.Fatalf("from %d over %d to %d in %v", pair[0], node, pair[1], g)
				}
			}
		}
	}
	if sent < 1000 {
		t.Error("only", sent, "downstream alternates")
	}
}
