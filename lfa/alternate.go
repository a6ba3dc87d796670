package lfa

import "routing/api"

// candidate is an alternate with the cost of its way from the root to the destination.
type candidate struct {
	alternate api.Alternate
	cost      int
}

// alternate returns the best alternate for a destination and a primary next hop, and whether there is one. The edges
// are those that leave the root.
func alternate(dist [][]int, edges []api.Edge, dest, primary int) (api.Alternate, bool) {
	var best candidate
	found := false
	better := func(c candidate) bool {
		if c.alternate.Kind != best.alternate.Kind {
			return c.alternate.Kind == api.AltNode
		}
		if c.cost != best.cost {
			return c.cost < best.cost
		}
		return c.alternate.Via < best.alternate.Via
	}
	for _, e := range edges {
		if e.To == primary || !Loopfree(dist, e.From, e.To, dest) {
			continue
		}
		if c := weigh(dist, e, dest, primary); !found || better(c) {
			best, found = c, true
		}
	}
	return best.alternate, found
}

// weigh returns the candidate at the end of an edge that leaves the root.
func weigh(dist [][]int, e api.Edge, dest, primary int) candidate {
	a := api.Alternate{Dest: dest, Primary: primary, Via: e.To, Kind: api.AltLink}
	if primary != dest && Protects(dist, e.To, primary, dest) {
		a.Kind = api.AltNode
	}
	a.Downstream = Downstream(dist, e.From, e.To, dest)
	return candidate{alternate: a, cost: e.Cost + dist[e.To][dest]}
}
