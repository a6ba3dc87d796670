package graph_test

import (
	"math"
	"math/rand/v2"
	"slices"
	"testing"

	"routing/api"
	"routing/graph"
)

// anyChanges returns changes of which most can be applied to graphs with a few nodes.
func anyChanges(r *rand.Rand, g api.Graph, count int) []api.Change {
	var l []api.Change
	for range count {
		c := api.Change{From: r.IntN(g.Routers + g.Nets + 1), To: r.IntN(g.Routers + g.Nets + 1), Cost: 1 + r.IntN(5)}
		if c.From >= g.Routers {
			c.Cost = 0
		}
		if e := r.IntN(3); e == 0 && len(g.Edges) > 0 {
			old := g.Edges[r.IntN(len(g.Edges))]
			c = api.Change{From: old.From, To: old.To, Cost: -1 - r.IntN(2)}
		} else if e == 1 && r.IntN(4) == 0 {
			c.Cost = []int{-1, 0, 65535, 65536, math.MaxInt, math.MinInt}[r.IntN(6)]
		}
		l = append(l, c)
	}
	return l
}

// P9.3, P9.7
func TestApply(t *testing.T) {
	r := rand.New(rand.NewPCG(9, 3))
	found := map[api.Errno]int{}
	for range 20000 {
		g := validGraph(r, 1+r.IntN(4), r.IntN(3), 1+r.IntN(4))
		if r.IntN(20) == 0 && len(g.Edges) > 0 {
			g.Edges[r.IntN(len(g.Edges))] = anyEdges(r, 1)[0]
		}
		changes := anyChanges(r, g, r.IntN(6))
		want, wantErr := changed(g, changes)
		found[wantErr]++
		before := g.Edges
		g.Edges = spare(before)
		h, err := graph.Apply(g, changes...)
		if err != wantErr || !same(h, want) {
			t.Fatalf("Apply(%v, %v) = %v, %v, want %v, %v", g, changes, h, err, want, wantErr)
		}
		unchanged(t, g.Edges, before)
		if err == api.OK && graph.Check(h) != api.OK {
			t.Fatalf("Apply(%v, %v) = %v is not valid", g, changes, h)
		}
	}
	for _, err := range []api.Errno{api.OK, api.ErrRange, api.ErrInvalid, api.ErrNotFound, api.ErrOrder} {
		if found[err] < 20 {
			t.Errorf("only %d times %v", found[err], err)
		}
	}
}

// P9.3
func TestApplyErrors(t *testing.T) {
	g := api.Graph{Routers: 2, Nets: 2, Edges: []api.Edge{{From: 0, To: 1, Cost: 5}, {From: 2, To: 1}}}
	for _, c := range []struct {
		changes []api.Change
		want    api.Errno
	}{
		{nil, api.OK},
		{[]api.Change{{From: 4, To: 0, Cost: 0}}, api.ErrRange},
		{[]api.Change{{From: 0, To: 4, Cost: -1}}, api.ErrRange},
		{[]api.Change{{From: -1, To: 0, Cost: -1}}, api.ErrRange},
		{[]api.Change{{From: 0, To: math.MinInt, Cost: 1}}, api.ErrRange},
		{[]api.Change{{From: 4, To: 4, Cost: 1}}, api.ErrRange},
		{[]api.Change{{From: 1, To: 1, Cost: -1}}, api.ErrNotFound},
		{[]api.Change{{From: 2, To: 3, Cost: -1}}, api.ErrNotFound},
		{[]api.Change{{From: 1, To: 0, Cost: math.MinInt}}, api.ErrNotFound},
		{[]api.Change{{From: 1, To: 1, Cost: 1}}, api.ErrInvalid},
		{[]api.Change{{From: 2, To: 3, Cost: 0}}, api.ErrInvalid},
		{[]api.Change{{From: 0, To: 1, Cost: 0}}, api.ErrInvalid},
		{[]api.Change{{From: 0, To: 1, Cost: 65536}}, api.ErrInvalid},
		{[]api.Change{{From: 2, To: 1, Cost: 1}}, api.ErrInvalid},
		{[]api.Change{{From: 2, To: 1, Cost: 0}}, api.OK},
		{[]api.Change{{From: 0, To: 1, Cost: -1}, {From: 0, To: 1, Cost: -1}}, api.ErrNotFound},
		{[]api.Change{{From: 0, To: 1, Cost: -1}, {From: 0, To: 1, Cost: 2}, {From: 0, To: 1, Cost: -1}}, api.OK},
		{[]api.Change{{From: 1, To: 0, Cost: -1}, {From: 9, To: 9, Cost: 1}}, api.ErrNotFound},
		{[]api.Change{{From: 9, To: 9, Cost: 1}, {From: 1, To: 0, Cost: -1}}, api.ErrRange},
	} {
		h, err := graph.Apply(g, c.changes...)
		if err != c.want {
			t.Errorf("Apply(%v) = %v, want %v", c.changes, err, c.want)
		}
		if err != api.OK && !same(h, api.Graph{}) {
			t.Errorf("Apply(%v) = %v with %v", c.changes, h, err)
		}
	}
	if h, err := graph.Apply(api.Graph{Routers: -1}, api.Change{From: 9, To: 9}); err != api.ErrRange || !same(h, api.Graph{}) {
		t.Error("Apply to an invalid graph", h, err)
	}
	if _, err := graph.Apply(api.Graph{Routers: 129}, api.Change{From: 0, To: 1, Cost: -1}); err != api.ErrTooLong {
		t.Error("Apply to a graph with too many nodes", err)
	}
}

// P9.3
func TestApplyToFullGraph(t *testing.T) {
	g := full()
	if len(g.Edges) != 1024 {
		t.Fatal("edges:", len(g.Edges))
	}
	there := g.Edges[500]
	if _, err := graph.Apply(g, api.Change{From: 0, To: 1, Cost: 7}); err != api.ErrTooLong {
		t.Error("one more edge:", err)
	}
	if _, err := graph.Apply(g, api.Change{From: 0, To: 1}); err != api.ErrInvalid {
		t.Error("one more edge that is not allowed:", err)
	}
	for _, changes := range [][]api.Change{
		{{From: there.From, To: there.To, Cost: 7}},
		{{From: there.From, To: there.To, Cost: -1}, {From: 0, To: 1, Cost: 7}},
		{{From: there.From, To: there.To, Cost: -1}, {From: 99, To: 98, Cost: 7}},
	} {
		want, _ := changed(g, changes)
		if h, err := graph.Apply(g, changes...); err != api.OK || !same(h, want) {
			t.Errorf("Apply(%v) = %v", changes, err)
		}
	}
}

// P9.9
func TestChangesThatAreUndone(t *testing.T) {
	r := rand.New(rand.NewPCG(9, 9))
	for range 2000 {
		g := validGraph(r, 1+r.IntN(5), r.IntN(3), 1+r.IntN(4))
		for _, e := range g.Edges {
			if h, err := graph.Apply(g, api.Change(e)); err != api.OK || !same(h, g) {
				t.Fatalf("Apply(%v, %v) = %v, %v", g, e, h, err)
			}
			gone, err := graph.Apply(g, api.Change{From: e.From, To: e.To, Cost: -1})
			if err != api.OK || len(gone.Edges) != len(g.Edges)-1 {
				t.Fatalf("without %v: %v, %v", e, gone, err)
			}
			if h, err := graph.Apply(gone, api.Change(e)); err != api.OK || !same(h, g) {
				t.Fatalf("Apply(%v, %v) = %v, %v", gone, e, h, err)
			}
			h, err := graph.Apply(g, api.Change(e), api.Change{From: e.From, To: e.To, Cost: -9})
			if err != api.OK || !same(h, gone) {
				t.Fatalf("%v set and removed: %v, %v", e, h, err)
			}
		}
	}
}

// reversed is the promise of Reverse: edges are taken one after the other, each to the place behind those that are
// not greater.
func reversed(g api.Graph) api.Graph {
	h := api.Graph{Routers: g.Routers, Nets: g.Nets}
	for _, e := range g.Edges {
		turned := api.Edge{From: e.To, To: e.From, Cost: e.Cost}
		place := len(h.Edges)
		for place > 0 && less(turned, h.Edges[place-1]) {
			place--
		}
		h.Edges = slices.Insert(h.Edges, place, turned)
	}
	return h
}

// P9.4
func TestReverseWithoutCut(t *testing.T) {
	r := rand.New(rand.NewPCG(9, 4))
	for range 5000 {
		g := api.Graph{Routers: r.IntN(5) - 1, Nets: r.IntN(3) - 1, Edges: anyEdges(r, r.IntN(30))}
		before := g.Edges
		g.Edges = spare(before)
		if h := graph.Reverse(g); !same(h, reversed(g)) {
			t.Fatalf("Reverse(%v) = %v", g, h)
		}
		unchanged(t, g.Edges, before)
		a, b := r.IntN(7)-2, r.IntN(7)-2
		without := api.Graph{Routers: g.Routers, Nets: g.Nets}
		cut := without
		for _, e := range g.Edges {
			if e.From != a && e.To != a {
				without.Edges = append(without.Edges, e)
			}
			if !(e.From == a && e.To == b || e.From == b && e.To == a) {
				cut.Edges = append(cut.Edges, e)
			}
		}
		if h := graph.Without(g, a); !same(h, without) {
			t.Fatalf("Without(%v, %d) = %v", g, a, h)
		}
		unchanged(t, g.Edges, before)
		if h := graph.Cut(g, a, b); !same(h, cut) {
			t.Fatalf("Cut(%v, %d, %d) = %v", g, a, b, h)
		}
		unchanged(t, g.Edges, before)
	}
}

// P9.4
func TestReverseKeepsTheOrderOfEqualEdges(t *testing.T) {
	g := api.Graph{Routers: math.MinInt, Nets: math.MaxInt}
	for i := range 3000 {
		g.Edges = append(g.Edges, api.Edge{From: i % 7, To: i % 5, Cost: i})
	}
	h := graph.Reverse(g)
	if h.Routers != g.Routers || h.Nets != g.Nets || len(h.Edges) != len(g.Edges) {
		t.Fatal("Reverse", h.Routers, h.Nets, len(h.Edges))
	}
	for i, e := range h.Edges {
		if e.From != e.Cost%5 || e.To != e.Cost%7 {
			t.Fatal("no edge of the graph:", e)
		}
		if i > 0 && (less(e, h.Edges[i-1]) || !less(h.Edges[i-1], e) && h.Edges[i-1].Cost > e.Cost) {
			t.Fatal("not in order:", h.Edges[i-1], e)
		}
	}
}

// P9.7
func TestResultsForValidGraphsAreValid(t *testing.T) {
	r := rand.New(rand.NewPCG(9, 7))
	for range 2000 {
		g := validGraph(r, r.IntN(6), r.IntN(4), 1+r.IntN(4))
		a, b := r.IntN(10), r.IntN(10)
		if h := graph.Without(g, a); graph.Check(h) != api.OK {
			t.Fatalf("Without(%v, %d) = %v", g, a, h)
		}
		if h := graph.Cut(g, a, b); graph.Check(h) != api.OK {
			t.Fatalf("Cut(%v, %d, %d) = %v", g, a, b, h)
		}
		if h, err := graph.Of(g.Routers, g.Nets, g.Edges...); err != api.OK || !same(h, g) {
			t.Fatalf("Of(%v) = %v, %v", g, h, err)
		}
		routersOnly := validGraph(r, r.IntN(8), 0, 1+r.IntN(4))
		h := graph.Reverse(routersOnly)
		if graph.Check(h) != api.OK || !same(graph.Reverse(h), routersOnly) {
			t.Fatalf("Reverse(%v) = %v", routersOnly, h)
		}
	}
}

// P9.6, P9.7
func TestOf(t *testing.T) {
	r := rand.New(rand.NewPCG(9, 6))
	found := map[api.Errno]int{}
	for range 20000 {
		routers, nets := r.IntN(6), r.IntN(3)
		edges := validGraph(r, r.IntN(1+routers), 0, 2).Edges
		edges = append(edges, validGraph(r, r.IntN(1+routers), 0, 2).Edges...)
		if r.IntN(3) == 0 {
			edges = append(edges, anyEdges(r, r.IntN(3))...)
		}
		r.Shuffle(len(edges), func(i, j int) { edges[i], edges[j] = edges[j], edges[i] })
		want, wantErr := sortedOf(routers, nets, edges)
		found[wantErr]++
		given := spare(edges)
		g, err := graph.Of(routers, nets, given...)
		if err != wantErr || !same(g, want) {
			t.Fatalf("Of(%d, %d, %v) = %v, %v, want %v, %v", routers, nets, edges, g, err, want, wantErr)
		}
		unchanged(t, given, edges)
		if err == api.OK && graph.Check(g) != api.OK {
			t.Fatalf("Of(%d, %d, %v) = %v is not valid", routers, nets, edges, g)
		}
	}
	for _, err := range []api.Errno{api.OK, api.ErrRange, api.ErrInvalid} {
		if found[err] < 100 {
			t.Errorf("only %d times %v", found[err], err)
		}
	}
}

// P9.6
func TestOfLimits(t *testing.T) {
	all := full().Edges
	twice := slices.Concat(all, all)
	if g, err := graph.Of(100, 28, twice...); err != api.OK || !same(g, full()) {
		t.Error("all edges twice:", err)
	}
	if g, err := graph.Of(100, 28, append(twice, api.Edge{From: 0, To: 1, Cost: 1})...); err != api.ErrTooLong || !same(g, api.Graph{}) {
		t.Error("one more edge:", err)
	}
	for _, c := range []struct {
		routers, nets int
		edges         []api.Edge
		want          api.Errno
	}{
		{0, 0, nil, api.OK},
		{-1, 0, nil, api.ErrRange},
		{0, -1, nil, api.ErrRange},
		{100, 29, nil, api.ErrTooLong},
		{math.MaxInt, math.MaxInt, nil, api.ErrTooLong},
		{2, 0, []api.Edge{{From: 0, To: 1, Cost: 7}, {From: 0, To: 1, Cost: 4}}, api.OK},
		{2, 0, []api.Edge{{From: 0, To: 1, Cost: 7}, {From: 0, To: 1, Cost: -4}}, api.ErrInvalid},
		{2, 0, []api.Edge{{From: 0, To: 1, Cost: 65536}, {From: 0, To: 1, Cost: 1}}, api.OK},
		{2, 0, []api.Edge{{From: 1, To: 2, Cost: 1}, {From: 0, To: 1, Cost: 0}}, api.ErrInvalid},
		{2, 0, []api.Edge{{From: 1, To: 0, Cost: 0}, {From: 0, To: 2, Cost: 1}}, api.ErrRange},
		{2, 0, []api.Edge{{From: 0, To: 0, Cost: 1}, {From: -1, To: 0, Cost: 1}}, api.ErrRange},
	} {
		g, err := graph.Of(c.routers, c.nets, c.edges...)
		if err != c.want || err != api.OK && !same(g, api.Graph{}) {
			t.Errorf("Of(%d, %d, %v) = %v, %v, want %v", c.routers, c.nets, c.edges, g, err, c.want)
		}
	}
}

// overlap reports whether a write to the one list, up to its capacity, is seen in the other.
func overlap(a, b []api.Edge) bool {
	a, b = a[:cap(a)], b[:cap(b)]
	for i := range a {
		for j := range b {
			if &a[i] == &b[j] {
				return true
			}
		}
	}
	return false
}

// R5
func TestResultsAreNew(t *testing.T) {
	for _, edges := range [][]api.Edge{{}, {{From: 0, To: 1, Cost: 5}, {From: 0, To: 2, Cost: 3}, {From: 2, To: 1}}} {
		g := api.Graph{Routers: 2, Nets: 1, Edges: spare(edges)}
		applied, _ := graph.Apply(g)
		more, _ := graph.Apply(g, api.Change{From: 1, To: 0, Cost: 1})
		of, _ := graph.Of(2, 1, g.Edges...)
		for i, h := range []api.Graph{applied, more, of, graph.Reverse(g), graph.Without(g, 9), graph.Cut(g, 9, 9)} {
			if overlap(h.Edges, g.Edges) {
				t.Errorf("result %d shares memory with the argument %v", i, g)
			}
		}
		unchanged(t, g.Edges, edges)
	}
}
