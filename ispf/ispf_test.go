package ispf_test

import (
	"math"
	"math/rand/v2"
	"slices"
	"testing"

	"routing/api"
	"routing/graph"
	"routing/ispf"
)

// rowOf returns a list of a node, which is empty if it is missing.
func rowOf(rows [][]int, node int) []int {
	if node < len(rows) {
		return rows[node]
	}
	return nil
}

// distOf returns the distance of a node as a list, which is empty if it is missing.
func distOf(dist []int, node int) []int {
	if node < len(dist) {
		return dist[node : node+1]
	}
	return nil
}

// affected is the promise of Affected for trees whose lists are those of at most the first 200 nodes.
func affected(a, b api.Tree) []int {
	var l []int
	for node := range 200 {
		if !slices.Equal(distOf(a.Dist, node), distOf(b.Dist, node)) ||
			!slices.Equal(rowOf(a.Hops, node), rowOf(b.Hops, node)) ||
			!slices.Equal(rowOf(a.Parents, node), rowOf(b.Parents, node)) {
			l = append(l, node)
		}
	}
	return l
}

// P12.2: the trees before and after changes, and trees of different graphs and roots.
func TestAffected(t *testing.T) {
	r := rand.New(rand.NewPCG(12, 2))
	for range 10000 {
		g := smallGraph(r)
		before := run(t, g, r.IntN(g.Routers))
		after := update(g, before, anyChanges(r, g, r.IntN(3), 4)...).tree
		if r.IntN(3) == 0 {
			g = smallGraph(r)
			after = run(t, g, r.IntN(g.Routers))
		}
		want := affected(before, after)
		if l := ispf.Affected(before, after); !slices.Equal(l, want) {
			t.Fatalf("Affected(%v, %v) = %v, want %v", before, after, l, want)
		}
		if l := ispf.Affected(after, before); !slices.Equal(l, want) {
			t.Fatalf("Affected(%v, %v) = %v, want %v", after, before, l, want)
		}
		if l := ispf.Affected(before, before); len(l) != 0 {
			t.Fatalf("Affected(%v) of a tree and itself = %v", before, l)
		}
	}
}

// P12.2: each part of the rows on its own, and lists that are missing.
func TestAffectedRows(t *testing.T) {
	rows := func(lists ...[]int) [][]int { return lists }
	full := api.Tree{Dist: []int{0, 1, 2}, Hops: rows(nil, []int{1}, []int{1}), Parents: rows(nil, []int{0}, []int{1})}
	for _, c := range []struct {
		a, b api.Tree
		want []int
	}{
		{api.Tree{}, api.Tree{}, nil},
		{full, full, nil},
		{full, api.Tree{Root: 2, Dist: full.Dist, Hops: full.Hops, Parents: full.Parents}, nil},
		{full, api.Tree{}, []int{0, 1, 2}},
		{full, api.Tree{Dist: full.Dist}, []int{1, 2}},
		{full, api.Tree{Dist: full.Dist[:1], Hops: full.Hops, Parents: full.Parents}, []int{1, 2}},
		{full, api.Tree{Dist: full.Dist, Hops: full.Hops[:2], Parents: full.Parents}, []int{2}},
		{full, api.Tree{Dist: full.Dist, Hops: full.Hops, Parents: full.Parents[:1]}, []int{1, 2}},
		{full, api.Tree{Dist: []int{0, 1, 3}, Hops: full.Hops, Parents: full.Parents}, []int{2}},
		{full, api.Tree{Dist: full.Dist, Hops: rows(nil, []int{1}, []int{1, 2}), Parents: full.Parents}, []int{2}},
		{full, api.Tree{Dist: full.Dist, Hops: full.Hops, Parents: rows([]int{1}, []int{0}, []int{1})}, []int{0}},
		{api.Tree{Dist: []int{0}, Hops: rows(nil), Parents: rows([]int{})}, api.Tree{Dist: []int{0}, Hops: rows([]int{})}, nil},
		{api.Tree{Dist: []int{math.MinInt, math.MaxInt}}, api.Tree{Dist: []int{math.MaxInt, math.MaxInt}}, []int{0}},
		{api.Tree{Dist: []int{0}}, api.Tree{}, []int{0}},
		{api.Tree{Dist: []int{0}}, api.Tree{Hops: rows([]int{0})}, []int{0}},
	} {
		if l := ispf.Affected(c.a, c.b); !slices.Equal(l, c.want) {
			t.Errorf("Affected(%v, %v) = %v, want %v", c.a, c.b, l, c.want)
		}
		if l := ispf.Affected(c.b, c.a); !slices.Equal(l, c.want) {
			t.Errorf("Affected(%v, %v) = %v, want %v", c.b, c.a, l, c.want)
		}
	}
}

// P12.2: nodes that neither tree has a distance of, with lists that differ, are equal, empty or missing.
func TestAffectedBeyondDist(t *testing.T) {
	rows := func(lists ...[]int) [][]int { return lists }
	for _, c := range []struct {
		a, b api.Tree
		want []int
	}{
		{api.Tree{Hops: rows([]int{1})}, api.Tree{}, []int{0}},
		{api.Tree{Parents: rows(nil, []int{0})}, api.Tree{}, []int{1}},
		{api.Tree{Hops: rows(nil, []int{1})}, api.Tree{Parents: rows(nil, []int{1})}, []int{1}},
		{api.Tree{Hops: rows([]int{1}, []int{2})}, api.Tree{Hops: rows([]int{1}, []int{3})}, []int{1}},
		{api.Tree{Parents: rows([]int{1}, []int{2})}, api.Tree{Parents: rows([]int{1})}, []int{1}},
		{api.Tree{Hops: rows([]int{1}), Parents: rows([]int{2})}, api.Tree{Hops: rows([]int{1}), Parents: rows([]int{2})}, nil},
		{api.Tree{Hops: rows(nil, []int{}), Parents: rows([]int{}, nil, nil)}, api.Tree{}, nil},
		{api.Tree{Dist: []int{0}, Hops: rows(nil, nil, []int{5})}, api.Tree{Dist: []int{0}}, []int{2}},
		{api.Tree{Dist: []int{0}, Hops: rows(nil, nil, nil)}, api.Tree{Dist: []int{1}, Parents: rows(nil, nil)}, []int{0}},
		{api.Tree{Dist: []int{0, 1}}, api.Tree{Dist: []int{0}, Parents: rows(nil, nil, nil, []int{0})}, []int{1, 3}},
	} {
		if l := ispf.Affected(c.a, c.b); !slices.Equal(l, c.want) {
			t.Errorf("Affected(%v, %v) = %v, want %v", c.a, c.b, l, c.want)
		}
		if l := ispf.Affected(c.b, c.a); !slices.Equal(l, c.want) {
			t.Errorf("Affected(%v, %v) = %v, want %v", c.b, c.a, l, c.want)
		}
	}
}

// anyLists returns few lists, most of them empty.
func anyLists(r *rand.Rand) [][]int {
	lists := make([][]int, r.IntN(5))
	for i := range lists {
		lists[i] = make([]int, r.IntN(5)/3)
	}
	return lists
}

// P12.2: trees whose parts have any lengths.
func TestAffectedOfAnyTrees(t *testing.T) {
	r := rand.New(rand.NewPCG(12, 22))
	for range 20000 {
		a := api.Tree{Dist: make([]int, r.IntN(5)), Hops: anyLists(r), Parents: anyLists(r)}
		b := api.Tree{Dist: make([]int, r.IntN(5)), Hops: anyLists(r), Parents: anyLists(r)}
		for i := range b.Dist {
			b.Dist[i] = r.IntN(5) / 4
		}
		if l, want := ispf.Affected(a, b), affected(a, b); !slices.Equal(l, want) {
			t.Fatalf("Affected(%v, %v) = %v, want %v", a, b, l, want)
		}
	}
}

// changesBetween is the promise of Changes for two valid graphs with the same nodes.
func changesBetween(a, b api.Graph) []api.Change {
	var l []api.Change
	for from := range a.Routers + a.Nets {
		for to := range a.Routers + a.Nets {
			before, was := graph.Cost(a, from, to)
			after, is := graph.Cost(b, from, to)
			if is && (!was || before != after) {
				l = append(l, api.Change{From: from, To: to, Cost: after})
			}
			if was && !is {
				l = append(l, api.Change{From: from, To: to, Cost: -1})
			}
		}
	}
	return l
}

// P12.3, P12.5
func TestChanges(t *testing.T) {
	r := rand.New(rand.NewPCG(12, 3))
	for i := range 5000 {
		a := smallGraph(r)
		b := anyGraph(r, a.Routers, a.Nets, r.IntN(20), 4)
		if i%2 == 0 {
			b, _ = graph.Apply(a, anyChanges(r, a, r.IntN(4), 4)...)
		}
		want := changesBetween(a, b)
		edges := slices.Clone(a.Edges)
		changes, err := ispf.Changes(a, b)
		if err != api.OK || !slices.Equal(changes, want) {
			t.Fatalf("Changes(%v, %v) = %v, %v, want %v", a, b, changes, err, want)
		}
		if h, err := graph.Apply(a, changes...); err != api.OK || !sameGraph(h, b) {
			t.Fatalf("%v with the changes %v is %v, %v, not %v", a, changes, h, err, b)
		}
		if !slices.Equal(a.Edges, edges) {
			t.Fatal("the argument was changed")
		}
	}
}

// P12.3: the errors of the first graph, of the second one, and of both.
func TestChangesErrors(t *testing.T) {
	good := api.Graph{Routers: 2, Nets: 1, Edges: []api.Edge{{From: 0, To: 2, Cost: 3}, {From: 2, To: 1}}}
	negative := api.Graph{Routers: 2, Nets: -1}
	many := api.Graph{Routers: math.MaxInt, Nets: math.MaxInt}
	unordered := api.Graph{Routers: 2, Edges: []api.Edge{{From: 1, To: 0, Cost: 1}, {From: 0, To: 1, Cost: 1}}}
	free := api.Graph{Routers: 2, Nets: 1, Edges: []api.Edge{{From: 0, To: 2}}}
	for _, c := range []struct {
		a, b api.Graph
		want api.Errno
	}{
		{good, good, api.OK},
		{api.Graph{}, api.Graph{}, api.OK},
		{good, negative, api.ErrRange},
		{negative, good, api.ErrRange},
		{negative, many, api.ErrRange},
		{many, negative, api.ErrTooLong},
		{unordered, free, api.ErrOrder},
		{free, unordered, api.ErrInvalid},
		{api.Graph{}, free, api.ErrInvalid},
		{unordered, api.Graph{}, api.ErrOrder},
		{good, api.Graph{Routers: 3}, api.ErrMismatch},
		{good, api.Graph{Routers: 2}, api.ErrMismatch},
		{api.Graph{Routers: 1, Nets: 1}, api.Graph{Routers: 2, Nets: 1}, api.ErrMismatch},
		{api.Graph{Routers: 1, Nets: 2}, api.Graph{Routers: 1, Nets: 1}, api.ErrMismatch},
	} {
		if changes, err := ispf.Changes(c.a, c.b); err != c.want || len(changes) != 0 {
			t.Errorf("Changes(%v, %v) = %v, %v, want %v", c.a, c.b, changes, err, c.want)
		}
	}
}

// P12.5: changes that cannot be applied in order because there would be too many edges on the way.
func TestChangesOfFullGraphs(t *testing.T) {
	var edges []api.Edge
	for from := range 128 {
		for step := range 8 {
			edges = append(edges, api.Edge{From: from, To: (from + 1 + step) % 128, Cost: 1 + step})
		}
	}
	full, err := graph.Of(128, 0, edges...)
	if err != api.OK || len(full.Edges) != 1024 {
		t.Fatal(err)
	}
	edges[1023] = api.Edge{From: 0, To: 100, Cost: 65535}
	other, err := graph.Of(128, 0, edges...)
	if err != api.OK || len(other.Edges) != 1024 {
		t.Fatal(err)
	}
	changes, err := ispf.Changes(full, other)
	if err != api.OK || !slices.Equal(changes, []api.Change{{From: 0, To: 100, Cost: 65535}, {From: 127, To: 7, Cost: -1}}) {
		t.Fatal("Changes:", changes, err)
	}
	if _, err := graph.Apply(full, changes...); err != api.ErrTooLong {
		t.Error("Apply:", err)
	}
	back, err := ispf.Changes(other, full)
	if err != api.OK || !slices.Equal(back, []api.Change{{From: 0, To: 100, Cost: -1}, {From: 127, To: 7, Cost: 8}}) {
		t.Fatal("Changes back:", back, err)
	}
	if g, err := graph.Apply(other, back...); err != api.OK || !sameGraph(g, full) {
		t.Error("Apply back:", err)
	}
}
