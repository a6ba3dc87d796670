package cspf

import "routing/api"

// noWalk is above the cost of every walk; twice as much is an int, too.
const noWalk = 1 << 40

// byHops are the least costs of walks by their hops.
type byHops [api.MaxNodes + 1]int

// leg is the part of walks that leads to a goal. On the best walk it has at most as many hops as there are nodes: no
// node occurs in it twice, unless it begins at its goal and comes back to it.
type leg struct {
	goal int
	near []byHops // for each node the walks from it to the goal
	rest []int    // least costs of the walks from the goal over the later ones, by hops
}

// newLeg returns the leg to a goal over links between n nodes.
func newLeg(n int, links []api.TELink, goal int, rest []int) *leg {
	l := &leg{goal: goal, near: make([]byHops, n), rest: rest}
	for node := range l.near {
		for hops := range l.near[node] {
			l.near[node][hops] = noWalk
		}
	}
	l.near[goal][0] = 0
	for hops := 1; hops <= n; hops++ {
		for _, link := range links {
			over := link.Cost + l.near[link.To][hops-1]
			l.near[link.From][hops] = min(l.near[link.From][hops], over)
		}
	}
	return l
}

// cost returns the least cost of a walk with so many hops, not fewer than fewest of them to the goal, from a node over
// the goal and the later ones.
func (l *leg) cost(node, hops, fewest int) int {
	cost := noWalk
	for near := max(fewest, hops-len(l.rest)+1); near <= min(hops, len(l.near)); near++ {
		cost = min(cost, l.near[node][near]+l.rest[hops-near])
	}
	return cost
}

// walks returns these costs for the walks from a node, by hops up to a limit.
func (l *leg) walks(node, fewest, limit int) []int {
	costs := make([]int, min(limit, len(l.near)+len(l.rest)-1)+1)
	for hops := range costs {
		costs[hops] = l.cost(node, hops, fewest)
	}
	return costs
}
