package cspf_test

import (
	"math/rand/v2"
	"slices"

	"routing/api"
)

// anyLink returns a valid link; its capacity is at most 4, so that many links have the same room.
func anyLink(r *rand.Rand, from, to, dear int) api.TELink {
	l := api.TELink{From: from, To: to, Cost: 1 + r.IntN(dear), Capacity: r.IntN(5), Affinity: uint32(r.IntN(8))}
	for k := range l.Free {
		l.Free[k] = r.IntN(l.Capacity + 1)
	}
	slices.SortFunc(l.Free[:], func(a, b int) int { return b - a })
	return l
}

// anyLinks returns valid links between n nodes, about one of sparse possible ones.
func anyLinks(r *rand.Rand, n, sparse, dear int) []api.TELink {
	var links []api.TELink
	for from := range n {
		for to := range n {
			if from != to && r.IntN(sparse) == 0 && len(links) < 1024 {
				links = append(links, anyLink(r, from, to, dear))
			}
		}
	}
	return links
}

// anyNodes returns a list of nodes, some of them several times.
func anyNodes(r *rand.Rand, n, length int) []int {
	var nodes []int
	for range length {
		nodes = append(nodes, r.IntN(n))
	}
	return nodes
}

// anyConstraint returns a valid constraint, which often allows many links.
func anyConstraint(r *rand.Rand, n int) api.Constraint {
	c := api.Constraint{Setup: r.IntN(8), MaxHops: r.IntN(9)}
	c.Hold = r.IntN(c.Setup + 1)
	if r.IntN(2) == 0 {
		c.MaxHops = 0
	}
	if r.IntN(3) == 0 {
		c.Bandwidth = r.IntN(4)
	}
	if r.IntN(3) == 0 {
		c.Include = uint32(r.IntN(8))
	}
	if r.IntN(4) == 0 {
		c.Exclude = 1 << r.IntN(4)
	}
	if r.IntN(4) == 0 {
		c.Avoid = anyNodes(r, n, 1+r.IntN(2))
	}
	if r.IntN(3) > 0 {
		c.Through = anyNodes(r, n, 1+r.IntN(3))
	}
	return c
}

// usable is the promise of Usable.
func usable(l api.TELink, c api.Constraint) bool {
	for _, node := range c.Avoid {
		if node == l.From || node == l.To {
			return false
		}
	}
	included := c.Include == 0
	for bit := range 32 {
		mask := uint32(1) << bit
		if l.Affinity&mask != 0 && c.Exclude&mask != 0 {
			return false
		}
		included = included || l.Affinity&mask != 0 && c.Include&mask != 0
	}
	for k, free := range l.Free {
		if k == c.Setup {
			return included && free >= c.Bandwidth
		}
	}
	return false
}

// costOf returns the cost of a walk that satisfies a constraint, and whether a list of nodes is one.
func costOf(n int, l []api.TELink, nodes []int, c api.Constraint) (int, bool) {
	cost := 0
	for i, node := range nodes {
		if node < 0 || node >= n || slices.Contains(c.Avoid, node) {
			return 0, false
		}
		if i == 0 {
			continue
		}
		at := slices.IndexFunc(l, func(l api.TELink) bool { return l.From == nodes[i-1] && l.To == node })
		if at < 0 || !usable(l[at], c) {
			return 0, false
		}
		cost += l[at].Cost
	}
	within := c.MaxHops == 0 || len(nodes) <= c.MaxHops+1
	return cost, len(nodes) > 0 && within && contains(nodes, c.Through)
}

// contains reports whether a list contains the elements of another one in this order, by all ways to place the last.
func contains(nodes, through []int) bool {
	if len(through) == 0 {
		return true
	}
	last := through[len(through)-1]
	for i, node := range nodes {
		if node == last && contains(nodes[:i], through[:len(through)-1]) {
			return true
		}
	}
	return false
}

// repeats reports whether a list contains an element twice.
func repeats(nodes []int) bool {
	sorted := slices.Sorted(slices.Values(nodes))
	return len(slices.Compact(sorted)) < len(nodes)
}

// route is what Route returns.
type route struct {
	path []int
	cost int
	err  api.Errno
}

func (a route) same(b route) bool {
	return slices.Equal(a.path, b.path) && a.cost == b.cost && a.err == b.err
}

// better reports whether a walk comes before another one.
func (a route) better(b route) bool {
	if a.cost != b.cost {
		return a.cost < b.cost
	}
	if len(a.path) != len(b.path) {
		return len(a.path) < len(b.path)
	}
	return slices.Compare(a.path, b.path) < 0
}

// settled is the promise of Route for the best walk, which has no path if there is none.
func settled(best route) route {
	switch {
	case best.path == nil:
		return route{err: api.ErrPath}
	case repeats(best.path):
		return route{err: api.ErrLoop}
	}
	return best
}

// everyWalk calls visit for each list of nodes that are joined by links and begin with a path, with at most so many
// nodes more.
func everyWalk(l []api.TELink, path []int, more int, visit func(path []int)) {
	visit(path)
	for _, link := range l {
		if more > 0 && link.From == path[len(path)-1] {
			everyWalk(l, append(slices.Clone(path), link.To), more-1, visit)
		}
	}
}

// searched returns what Route promises for a constraint with a limit of hops, by looking at all walks.
func searched(n int, l []api.TELink, from, to int, c api.Constraint) route {
	var best route
	everyWalk(l, []int{from}, c.MaxHops, func(path []int) {
		cost, ok := costOf(n, l, path, c)
		if found := (route{path: path, cost: cost}); ok && path[len(path)-1] == to && (best.path == nil || found.better(best)) {
			best = found
		}
	})
	return settled(best)
}

// place is the end of a walk and the number of elements of Through that it has visited.
type place struct{ node, visited int }

// extended returns what Route promises, by making walks longer hop by hop and keeping the best one to each place.
func extended(n int, l []api.TELink, from, to int, c api.Constraint) route {
	var links []api.TELink
	for _, link := range l {
		if usable(link, c) {
			links = append(links, link)
		}
	}
	visit := func(p place) place {
		if p.visited < len(c.Through) && c.Through[p.visited] == p.node {
			p.visited++
		}
		return p
	}
	var best route
	walks := map[place]route{}
	if !slices.Contains(c.Avoid, from) {
		walks[visit(place{node: from})] = route{path: []int{from}}
	}
	for hops := 0; hops <= n*(len(c.Through)+1) && (c.MaxHops == 0 || hops <= c.MaxHops); hops++ {
		found, ok := walks[place{to, len(c.Through)}]
		if ok && (best.path == nil || found.better(best)) {
			best = found
		}
		longer := map[place]route{}
		for p, walk := range walks {
			for _, link := range links {
				if link.From != p.node {
					continue
				}
				next := visit(place{link.To, p.visited})
				w := route{path: append(slices.Clone(walk.path), link.To), cost: walk.cost + link.Cost}
				if old, there := longer[next]; !there || w.better(old) {
					longer[next] = w
				}
			}
		}
		walks = longer
	}
	return settled(best)
}
