package cspf

import (
	"math"
	"slices"

	"routing/api"
)

// search are the walks over usable links that visit goals in order and end at the last one. Each leg leads to a goal.
type search struct {
	links []api.TELink
	legs  []*leg
	limit int // of the hops
}

// plan returns the walks to a node that satisfy a valid constraint, from wherever they begin.
func plan(n int, l []api.TELink, to int, c api.Constraint) search {
	s := search{limit: c.MaxHops}
	if c.MaxHops == 0 {
		s.limit = math.MaxInt
	}
	for _, link := range l {
		if Usable(link, c) {
			s.links = append(s.links, link)
		}
	}
	goals := goalsOf(c.Through, to)
	s.legs = make([]*leg, len(goals))
	rest := []int{0}
	for i := len(goals) - 1; i >= 0; i-- {
		s.legs[i] = newLeg(n, s.links, goals[i], rest)
		if i > 0 {
			// The goal before is visited at an earlier place, even if it is the same node.
			rest = s.legs[i].walks(goals[i-1], 1, s.limit)
		}
	}
	return s
}

// goalsOf returns the nodes that a walk to a node visits in order. If the last one of Through is that node, it stands
// for both: the end of the walk is the last place at which it can be visited.
func goalsOf(through []int, to int) []int {
	if len(through) > 0 && through[len(through)-1] == to {
		return through
	}
	return slices.Concat(through, []int{to})
}

// best returns the hops and the cost of the best walk from a node, and whether there is one.
func (s search) best(from int) (hops, cost int, ok bool) {
	cost = noWalk
	for h, c := range s.legs[0].walks(from, 0, s.limit) {
		if c < cost {
			hops, cost = h, c
		}
	}
	return hops, cost, cost < noWalk
}

// follow returns the lexicographically least walk from a node with the hops and the cost of the best one; false if a
// node occurs in it twice. A walk that goes on when it has visited all goals is not the best one.
func (s search) follow(from, hops, cost int) ([]int, bool) {
	path := []int{from}
	legs := s.legs
	for {
		node := path[len(path)-1]
		if node == legs[0].goal {
			legs = legs[1:]
		}
		if len(legs) == 0 {
			return path, true
		}
		i := slices.IndexFunc(s.links, func(l api.TELink) bool {
			return l.From == node && l.Cost+legs[0].cost(l.To, hops-1, 0) == cost
		})
		if i < 0 || slices.Contains(path, s.links[i].To) {
			return nil, false
		}
		path = append(path, s.links[i].To)
		hops, cost = hops-1, cost-s.links[i].Cost
	}
}
