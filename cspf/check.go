package cspf

import (
	"cmp"
	"slices"

	"routing/api"
)

// isNode reports whether a number is one of the nodes 0 to n-1.
func isNode(n, node int) bool { return node >= 0 && node < n }

// order compares links by From, then by To.
func order(a, b api.TELink) int {
	return cmp.Or(cmp.Compare(a.From, b.From), cmp.Compare(a.To, b.To))
}

// checkLink returns OK if a link by itself is valid.
func checkLink(n int, l api.TELink) api.Errno {
	if !isNode(n, l.From) || !isNode(n, l.To) {
		return api.ErrRange
	}
	if l.From == l.To {
		return api.ErrInvalid
	}
	if l.Cost < 1 || l.Cost > api.MaxMetric || l.Capacity < 0 || l.Capacity > api.MaxBandwidth {
		return api.ErrRange
	}
	for _, free := range l.Free {
		if free < 0 || free > l.Capacity {
			return api.ErrRange
		}
	}
	for k := range len(l.Free) - 1 {
		if l.Free[k] < l.Free[k+1] {
			return api.ErrInvalid
		}
	}
	return api.OK
}

// checkConstraint returns OK if a constraint is valid.
func checkConstraint(n int, c api.Constraint) api.Errno {
	if c.Bandwidth < 0 || c.Bandwidth > api.MaxBandwidth || !isPriority(c.Setup) || !isPriority(c.Hold) || c.MaxHops < 0 {
		return api.ErrRange
	}
	if c.Setup < c.Hold {
		return api.ErrInvalid
	}
	if len(c.Avoid) > api.MaxList || len(c.Through) > api.MaxList {
		return api.ErrTooLong
	}
	outside := func(node int) bool { return !isNode(n, node) }
	if slices.ContainsFunc(c.Avoid, outside) || slices.ContainsFunc(c.Through, outside) {
		return api.ErrRange
	}
	return api.OK
}

func isPriority(k int) bool { return k >= 0 && k <= 7 }

// different reports whether all elements of a list are nodes, each of them once.
func different(n int, path []int) bool {
	var seen [api.MaxNodes]bool
	for _, node := range path {
		if !isNode(n, node) || seen[node] {
			return false
		}
		seen[node] = true
	}
	return true
}

// linked reports whether a usable link of an ordered list leads from each node of a path to the next one.
func linked(l []api.TELink, path []int, c api.Constraint) bool {
	for i, to := range path[1:] {
		place, found := slices.BinarySearchFunc(l, api.TELink{From: path[i], To: to}, order)
		if !found || !Usable(l[place], c) {
			return false
		}
	}
	return true
}

// visits reports whether a path contains the nodes of through in this order, each one at a place of its own.
func visits(path, through []int) bool {
	for _, node := range path {
		if len(through) > 0 && node == through[0] {
			through = through[1:]
		}
	}
	return len(through) == 0
}
