package cspf_test

import (
	"math"
	"math/rand/v2"
	"slices"
	"testing"

	"routing/api"
	"routing/cspf"
)

// find is Route with its results in one value.
func find(n int, l []api.TELink, from, to int, c api.Constraint) route {
	path, cost, err := cspf.Route(n, l, from, to, c)
	return route{path, cost, err}
}

// free returns a link whose whole capacity is free.
func free(from, to, cost, capacity int) api.TELink {
	l := api.TELink{From: from, To: to, Cost: cost, Capacity: capacity}
	for k := range l.Free {
		l.Free[k] = capacity
	}
	return l
}

// enough fails unless all results occurred so often.
func enough(t *testing.T, counts map[api.Errno]int, least int) {
	t.Helper()
	for _, err := range []api.Errno{api.OK, api.ErrPath, api.ErrLoop} {
		if counts[err] < least {
			t.Errorf("%v occurred %d times only", err, counts[err])
		}
	}
}

// P14.3: compared with all walks.
func TestRouteByAllWalks(t *testing.T) {
	r := rand.New(rand.NewPCG(14, 3))
	counts := map[api.Errno]int{}
	for range 20000 {
		n := 1 + r.IntN(4)
		links := anyLinks(r, n, 1+r.IntN(2), 1+r.IntN(4))
		from, to, c := r.IntN(n), r.IntN(n), anyConstraint(r, n)
		c.MaxHops = 1 + r.IntN(6)
		got, want := find(n, links, from, to, c), searched(n, links, from, to, c)
		if !got.same(want) {
			t.Fatalf("Route(%d, %v, %d, %d, %v) = %v, want %v", n, links, from, to, c, got, want)
		}
		if also := extended(n, links, from, to, c); !also.same(want) {
			t.Fatalf("extended(%d, %v, %d, %d, %v) = %v, want %v", n, links, from, to, c, also, want)
		}
		counts[got.err]++
	}
	enough(t, counts, 1000)
}

// P14.3: with and without a limit of hops, which may be above the number of nodes.
func TestRoute(t *testing.T) {
	r := rand.New(rand.NewPCG(14, 33))
	counts := map[api.Errno]int{}
	for range 20000 {
		n := 1 + r.IntN(7)
		links := anyLinks(r, n, 1+r.IntN(3), 1+r.IntN(5))
		from, to, c := r.IntN(n), r.IntN(n), anyConstraint(r, n)
		if c.MaxHops > 0 && r.IntN(2) == 0 {
			c.MaxHops = 1 + r.IntN(4*n)
		}
		got, want := find(n, links, from, to, c), extended(n, links, from, to, c)
		if !got.same(want) {
			t.Fatalf("Route(%d, %v, %d, %d, %v) = %v, want %v", n, links, from, to, c, got, want)
		}
		counts[got.err]++
	}
	enough(t, counts, 1000)
}

// P14.3
func TestRouteOfLargeGraphs(t *testing.T) {
	r := rand.New(rand.NewPCG(14, 34))
	counts := map[api.Errno]int{}
	for i := range 120 {
		n := 2 + r.IntN(28)
		through := anyNodes(r, n, r.IntN(3))
		if i%20 == 0 {
			n, through = 128, nil
		}
		links := anyLinks(r, n, 1+n/(2+r.IntN(3)), []int{1, 3, 65535}[r.IntN(3)])
		c := api.Constraint{Through: through, Bandwidth: r.IntN(2), MaxHops: r.IntN(2) * r.IntN(20)}
		from, to := r.IntN(n), r.IntN(n)
		got, want := find(n, links, from, to, c), extended(n, links, from, to, c)
		if !got.same(want) {
			t.Fatalf("Route(%d, %v, %d, %d, %v) = %v, want %v", n, links, from, to, c, got, want)
		}
		counts[got.err]++
	}
	enough(t, counts, 10)
}

// P14.3: the example of the chapter.
func TestRouteExample(t *testing.T) {
	links := []api.TELink{free(0, 1, 1, 5), free(0, 2, 5, 50), free(1, 2, 1, 5)}
	for _, c := range []struct {
		c    api.Constraint
		want route
	}{
		{api.Constraint{Bandwidth: 5}, route{[]int{0, 1, 2}, 2, api.OK}},
		{api.Constraint{Bandwidth: 6}, route{[]int{0, 2}, 5, api.OK}},
		{api.Constraint{Bandwidth: 51}, route{err: api.ErrPath}},
		{api.Constraint{Bandwidth: 5, MaxHops: 1}, route{[]int{0, 2}, 5, api.OK}},
		{api.Constraint{Bandwidth: 5, MaxHops: 2}, route{[]int{0, 1, 2}, 2, api.OK}},
	} {
		if got := find(3, links, 0, 2, c.c); !got.same(c.want) {
			t.Errorf("Route(%v) = %v, want %v", c.c, got, c.want)
		}
	}
}

// P14.3: the cost comes first, then the number of nodes, then the nodes.
func TestTheBestWalk(t *testing.T) {
	for _, c := range []struct {
		links []api.TELink
		want  []int
	}{
		{[]api.TELink{free(0, 1, 1, 1), free(0, 4, 3, 1), free(1, 4, 1, 1)}, []int{0, 1, 4}},
		{[]api.TELink{free(0, 1, 1, 1), free(0, 4, 2, 1), free(1, 4, 1, 1)}, []int{0, 4}},
		{[]api.TELink{free(0, 1, 2, 1), free(0, 2, 1, 1), free(1, 4, 2, 1), free(2, 3, 1, 1), free(3, 4, 2, 1)}, []int{0, 1, 4}},
		{[]api.TELink{free(0, 1, 1, 1), free(0, 2, 1, 1), free(1, 3, 1, 1), free(2, 4, 2, 1), free(3, 4, 1, 1)}, []int{0, 2, 4}},
		{[]api.TELink{free(0, 1, 1, 1), free(0, 2, 1, 1), free(1, 4, 1, 1), free(2, 4, 1, 1)}, []int{0, 1, 4}},
		{[]api.TELink{free(0, 1, 3, 1), free(0, 2, 1, 1), free(0, 3, 1, 1), free(1, 4, 1, 1), free(2, 4, 3, 1), free(3, 4, 3, 1)}, []int{0, 1, 4}},
		{[]api.TELink{free(0, 2, 1, 1), free(0, 3, 1, 1), free(2, 4, 2, 1), free(3, 1, 1, 1), free(1, 4, 1, 1)}, []int{0, 2, 4}},
		{[]api.TELink{free(0, 2, 1, 1), free(1, 4, 1, 1), free(2, 1, 1, 1), free(2, 3, 1, 1), free(3, 4, 1, 1)}, []int{0, 2, 1, 4}},
	} {
		slices.SortFunc(c.links, func(a, b api.TELink) int { return slices.Compare([]int{a.From, a.To}, []int{b.From, b.To}) })
		if got := find(5, c.links, 0, 4, api.Constraint{}); got.err != api.OK || !slices.Equal(got.path, c.want) {
			t.Errorf("Route(%v) = %v, want %v", c.links, got, c.want)
		}
	}
}

// both returns links of cost 1 in both directions between consecutive nodes of a line.
func both(n int) []api.TELink {
	var links []api.TELink
	for node := range n {
		if node > 0 {
			links = append(links, free(node, node-1, 1, 1))
		}
		if node < n-1 {
			links = append(links, free(node, node+1, 1, 1))
		}
	}
	return links
}

// P14.3: nodes that are to be visited stand at different places, among them the ends.
func TestThrough(t *testing.T) {
	for _, c := range []struct {
		from, to int
		c        api.Constraint
		want     route
	}{
		{2, 2, api.Constraint{}, route{path: []int{2}}},
		{2, 2, api.Constraint{MaxHops: 1}, route{path: []int{2}}},
		{2, 2, api.Constraint{Through: []int{2}}, route{path: []int{2}}},
		{2, 2, api.Constraint{Through: []int{2, 2}}, route{err: api.ErrLoop}},
		{2, 2, api.Constraint{Through: []int{2, 2}, MaxHops: 1}, route{err: api.ErrPath}},
		{2, 2, api.Constraint{Through: []int{2, 2}, MaxHops: 2}, route{err: api.ErrLoop}},
		{2, 2, api.Constraint{Through: []int{1}}, route{err: api.ErrLoop}},
		{2, 2, api.Constraint{Avoid: []int{2}}, route{err: api.ErrPath}},
		{2, 2, api.Constraint{Avoid: []int{1}}, route{path: []int{2}}},
		{0, 3, api.Constraint{Through: []int{0, 1, 2, 3}}, route{path: []int{0, 1, 2, 3}, cost: 3}},
		{0, 3, api.Constraint{Through: []int{0, 3}}, route{path: []int{0, 1, 2, 3}, cost: 3}},
		{0, 3, api.Constraint{Through: []int{2, 1}}, route{err: api.ErrLoop}},
		{0, 3, api.Constraint{Through: []int{2, 1}, MaxHops: 4}, route{err: api.ErrPath}},
		{0, 3, api.Constraint{Through: []int{2, 1}, MaxHops: 5}, route{err: api.ErrLoop}},
		{0, 3, api.Constraint{Through: []int{1, 1}}, route{err: api.ErrLoop}},
		{0, 3, api.Constraint{Through: []int{3, 3}}, route{err: api.ErrLoop}},
		{0, 3, api.Constraint{Through: []int{3, 2}, MaxHops: math.MaxInt}, route{err: api.ErrLoop}},
		{0, 3, api.Constraint{Through: []int{1}, Avoid: []int{2}}, route{err: api.ErrPath}},
		{0, 1, api.Constraint{Through: []int{3}, Avoid: []int{3}}, route{err: api.ErrPath}},
		{3, 0, api.Constraint{MaxHops: 3}, route{path: []int{3, 2, 1, 0}, cost: 3}},
		{3, 0, api.Constraint{MaxHops: 2}, route{err: api.ErrPath}},
		{0, 3, api.Constraint{Avoid: []int{0}}, route{err: api.ErrPath}},
		{0, 3, api.Constraint{Avoid: []int{3}}, route{err: api.ErrPath}},
	} {
		if got := find(4, both(4), c.from, c.to, c.c); !got.same(c.want) {
			t.Errorf("Route(%d, %d, %v) = %v, want %v", c.from, c.to, c.c, got, c.want)
		}
	}
}

// P14.3: a walk that visits a node twice is better than a path, unless it is too long.
func TestLoopsAgainstPaths(t *testing.T) {
	links := append(both(3), free(2, 3, 9, 1))
	links = slices.Insert(links, 1, free(0, 2, 9, 1))
	c := api.Constraint{Through: []int{2, 1}}
	if got := find(4, links, 0, 1, c); !got.same(route{err: api.ErrLoop}) {
		t.Error("over node 1 twice:", got)
	}
	c.MaxHops = 2
	if got := find(4, links, 0, 1, c); !got.same(route{path: []int{0, 2, 1}, cost: 10}) {
		t.Error("within two hops:", got)
	}
}

// P14.3: the error of Check comes before that of the ends.
func TestRouteEnds(t *testing.T) {
	for _, node := range []int{-1, 4, 128, math.MinInt, math.MaxInt} {
		for _, pair := range [][2]int{{node, 1}, {1, node}, {node, node}} {
			for _, c := range []api.Constraint{{}, {Avoid: []int{1}}} {
				if got := find(4, both(4), pair[0], pair[1], c); !got.same(route{err: api.ErrRange}) {
					t.Errorf("Route(%d, %d, %v) = %v", pair[0], pair[1], c, got)
				}
			}
			if got := find(4, both(4), pair[0], pair[1], api.Constraint{Setup: 1, Hold: 2}); !got.same(route{err: api.ErrInvalid}) {
				t.Errorf("Route(%d, %d) = %v", pair[0], pair[1], got)
			}
		}
	}
	if got := find(1, nil, 0, 0, api.Constraint{}); !got.same(route{path: []int{0}}) {
		t.Error("one node:", got)
	}
	if got := find(2, nil, 0, 1, api.Constraint{}); !got.same(route{err: api.ErrPath}) {
		t.Error("no links:", got)
	}
}

// P14.3: the longest walks; from one end of a line to the other and back, again and again.
func TestLongWalks(t *testing.T) {
	links := both(128)
	for i := range links {
		links[i].Cost = 65535
	}
	got := find(128, links, 0, 127, api.Constraint{MaxHops: 127})
	if got.err != api.OK || len(got.path) != 128 || got.cost != 127*65535 {
		t.Error("the whole line:", got)
	}
	var through []int
	for range 32 {
		through = append(through, 127, 0)
	}
	for hops, want := range map[int]api.Errno{0: api.ErrLoop, 127 * 65: api.ErrLoop, 127*65 - 1: api.ErrPath, math.MaxInt: api.ErrLoop} {
		if got := find(128, links, 0, 127, api.Constraint{Through: through, MaxHops: hops}); !got.same(route{err: want}) {
			t.Errorf("with at most %d hops: %v, want %v", hops, got, want)
		}
	}
	r := rand.New(rand.NewPCG(14, 35))
	full := anyLinks(r, 128, 1, 65535)
	through = anyNodes(r, 128, 64)
	if got := find(128, full, 0, 1, api.Constraint{Through: through}); got.err == api.OK || len(got.path) != 0 {
		t.Error("many links:", got)
	}
}

// P14.4: compared with the definition, for any lists.
func TestFits(t *testing.T) {
	r := rand.New(rand.NewPCG(14, 4))
	counts := map[bool]int{}
	for range 60000 {
		n := 1 + r.IntN(4)
		links, c := anyLinks(r, n, 1+r.IntN(2), 3), anyConstraint(r, n)
		path := anyNodes(r, n, r.IntN(n+2))
		if r.IntN(2) == 0 {
			path = r.Perm(n)[:r.IntN(n+1)]
		}
		if r.IntN(30) == 0 {
			path = append(path, []int{-1, n, math.MinInt, math.MaxInt}[r.IntN(4)])
		}
		_, want := costOf(n, links, path, c)
		want = want && !repeats(path)
		if ok := cspf.Fits(n, links, path, c); ok != want {
			t.Fatalf("Fits(%d, %v, %v, %v) = %v, want %v", n, links, path, c, ok, want)
		}
		counts[want]++
	}
	if counts[true] < 5000 || counts[false] < 5000 {
		t.Error(counts)
	}
}

// P14.4: each condition alone.
func TestFitsCases(t *testing.T) {
	links := both(4)
	links[2].Affinity = 1
	for _, c := range []struct {
		path []int
		c    api.Constraint
		want bool
	}{
		{[]int{0, 1, 2, 3}, api.Constraint{}, true},
		{[]int{3, 2, 1, 0}, api.Constraint{}, true},
		{nil, api.Constraint{}, false},
		{[]int{0}, api.Constraint{}, true},
		{[]int{3}, api.Constraint{Through: []int{3}}, true},
		{[]int{3}, api.Constraint{Avoid: []int{3}}, false},
		{[]int{3}, api.Constraint{Through: []int{3, 3}}, false},
		{[]int{4}, api.Constraint{}, false},
		{[]int{-1}, api.Constraint{}, false},
		{[]int{math.MinInt}, api.Constraint{}, false},
		{[]int{0, 2}, api.Constraint{}, false},
		{[]int{0, 0}, api.Constraint{}, false},
		{[]int{0, 1, 0}, api.Constraint{}, false},
		{[]int{0, 1, 2}, api.Constraint{MaxHops: 2}, true},
		{[]int{0, 1, 2}, api.Constraint{MaxHops: 1}, false},
		{[]int{0, 1, 2}, api.Constraint{Exclude: 1}, false},
		{[]int{0, 1}, api.Constraint{Exclude: 1}, true},
		{[]int{0, 1, 2}, api.Constraint{Bandwidth: 2}, false},
		{[]int{0, 1, 2}, api.Constraint{Avoid: []int{2}}, false},
		{[]int{0, 1, 2}, api.Constraint{Avoid: []int{3}}, true},
		{[]int{0, 1, 2}, api.Constraint{Through: []int{0, 2}}, true},
		{[]int{0, 1, 2}, api.Constraint{Through: []int{2, 0}}, false},
		{[]int{0, 1, 2}, api.Constraint{Through: []int{1, 1}}, false},
		{[]int{0, 1, 2}, api.Constraint{Through: []int{3}}, false},
		{[]int{0, 1, 2}, api.Constraint{Setup: 1, Hold: 2}, false},
	} {
		if ok := cspf.Fits(4, links, c.path, c.c); ok != c.want {
			t.Errorf("Fits(%v, %v) = %v", c.path, c.c, ok)
		}
	}
	if cspf.Fits(0, nil, []int{0}, api.Constraint{}) || cspf.Fits(4, []api.TELink{links[1], links[0]}, []int{0, 1}, api.Constraint{}) {
		t.Error("wrong arguments fit")
	}
	if cspf.Fits(128, both(128), make([]int, 200000), api.Constraint{}) {
		t.Error("a long list fits")
	}
}

// P14.5: the path fits, and no other one that fits is better.
func TestNoPathIsBetter(t *testing.T) {
	r := rand.New(rand.NewPCG(14, 5))
	found := 0
	for range 5000 {
		n := 1 + r.IntN(5)
		links, c := anyLinks(r, n, 1+r.IntN(2), 3), anyConstraint(r, n)
		from, to := r.IntN(n), r.IntN(n)
		got := find(n, links, from, to, c)
		if got.err != api.OK {
			continue
		}
		found++
		cost, ok := costOf(n, links, got.path, c)
		if !ok || cost != got.cost || !cspf.Fits(n, links, got.path, c) || got.path[0] != from || got.path[len(got.path)-1] != to {
			t.Fatalf("Route(%d, %v, %d, %d, %v) = %v does not fit", n, links, from, to, c, got)
		}
		everyWalk(links, []int{from}, n-1, func(path []int) {
			cost, ok := costOf(n, links, path, c)
			if other := (route{path: path, cost: cost}); ok && path[len(path)-1] == to && other.better(got) && cspf.Fits(n, links, path, c) {
				t.Fatalf("Route(%d, %v, %d, %d, %v) = %v, but %v is better", n, links, from, to, c, got, other)
			}
		})
	}
	if found < 1000 {
		t.Error("only", found, "paths")
	}
}

// P14.6
func TestLessBandwidth(t *testing.T) {
	r := rand.New(rand.NewPCG(14, 6))
	cheaper := 0
	for range 20000 {
		n := 1 + r.IntN(8)
		links, c := anyLinks(r, n, 1+r.IntN(3), 9), anyConstraint(r, n)
		from, to := r.IntN(n), r.IntN(n)
		c.Through = nil
		c.Bandwidth = 1 + r.IntN(4)
		much := find(n, links, from, to, c)
		c.Bandwidth = r.IntN(c.Bandwidth)
		less := find(n, links, from, to, c)
		if much.err == api.ErrLoop || less.err == api.ErrLoop {
			t.Fatalf("Route(%d, %v, %d, %d, %v) = %v, %v", n, links, from, to, c, much, less)
		}
		if much.err == api.OK && (less.err != api.OK || less.cost > much.cost) {
			t.Fatalf("Route(%d, %v, %d, %d, %v) = %v, and %v with more bandwidth", n, links, from, to, c, less, much)
		}
		if less.err == api.OK && (much.err != api.OK || less.cost < much.cost) {
			cheaper++
		}
	}
	if cheaper < 1000 {
		t.Error("only", cheaper, "are cheaper")
	}
}

// P14.1 to P14.4: the arguments are left as they are, with what lies behind their ends, and are not kept.
func TestMemory(t *testing.T) {
	r := rand.New(rand.NewPCG(14, 7))
	for range 2000 {
		n := 1 + r.IntN(5)
		links, c := anyLinks(r, n, 1, 3), anyConstraint(r, n)
		links = append(links, api.TELink{From: 77}, api.TELink{To: 77})
		avoid, through := append(c.Avoid, 77, 77), append(c.Through, 77, 77)
		givenLinks := slices.Clone(links)
		givenAvoid, givenThrough := slices.Clone(avoid), slices.Clone(through)
		c.Avoid, c.Through = avoid[:len(avoid)-2], through[:len(through)-2]
		got := find(n, links[:len(links)-2], r.IntN(n), r.IntN(n), c)
		path := slices.Clone(got.path)
		cspf.Fits(n, links[:len(links)-2], got.path, c)
		if !slices.Equal(links, givenLinks) || !slices.Equal(avoid, givenAvoid) || !slices.Equal(through, givenThrough) || !slices.Equal(got.path, path) {
			t.Fatal("an argument was changed")
		}
		for i := range got.path {
			got.path[i] = -7
		}
		if !slices.Equal(avoid, givenAvoid) || !slices.Equal(through, givenThrough) {
			t.Fatal("the path shares memory with an argument")
		}
	}
}
