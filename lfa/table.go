package lfa

// entry is an element of a table of distances.
type entry struct {
	value int
	known bool // the table has the element
}

// finite reports whether the distance is one; negative numbers stand for infinite ones.
func (e entry) finite() bool { return e.value >= 0 }

// distance returns the element of the table for the distance from one node to another one.
func distance(dist [][]int, from, to int) entry {
	if from < 0 || from >= len(dist) || to < 0 || to >= len(dist[from]) {
		return entry{}
	}
	return entry{value: dist[from][to], known: true}
}

// avoids reports whether a node reaches another one by shortest paths none of which leads through a third one.
func avoids(dist [][]int, from, through, to int) bool {
	whole, first, second := distance(dist, from, to), distance(dist, from, through), distance(dist, through, to)
	if !whole.known || !first.known || !second.known || !whole.finite() {
		return false
	}
	if !first.finite() || !second.finite() {
		return true
	}
	// The sum of both parts may be above the largest int.
	return whole.value-first.value < second.value
}
