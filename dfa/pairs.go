package dfa

import (
	"slices"

	"routing/api"
)

// pair is a state of each of two automata.
type pair struct {
	a, b int
}

// common is a set of AS numbers that both automata treat alike: its first number and its class in each of them.
type common struct {
	start, a, b int
}

// commons returns the sets of numbers that two automata treat alike, ascending.
func commons(a, b api.DFA) []common {
	starts := slices.Concat(a.Starts, b.Starts)
	slices.Sort(starts)
	var l []common
	for _, start := range slices.Compact(starts) {
		l = append(l, common{start: start, a: class(a.Starts, start), b: class(b.Starts, start)})
	}
	return l
}

// Both returns the minimal automaton for the intersection.
func Both(a, b api.DFA) (api.DFA, api.Errno) {
	for _, d := range []api.DFA{a, b} {
		if err := Check(d); err != api.OK {
			return api.DFA{}, err
		}
	}
	d, ok := product(a, b)
	if !ok {
		return api.DFA{}, api.ErrFull
	}
	d = minimal(d)
	if len(d.Starts) > api.MaxEntries {
		return api.DFA{}, api.ErrFull
	}
	return d, api.OK
}

// product returns an automaton for the intersection, which may have too many classes, unless it would have too many
// states.
func product(a, b api.DFA) (api.DFA, bool) {
	var d api.DFA
	classes := commons(a, b)
	for _, x := range classes {
		d.Starts = append(d.Starts, x.start)
	}
	pairs := numbering[pair]{numbers: map[pair]int{}}
	pairs.number(pair{a.Start, b.Start})
	for s := 0; s < len(pairs.values); s++ {
		p := pairs.values[s]
		row := make([]int, len(classes))
		for c, x := range classes {
			row[c] = pairs.number(pair{a.Next[p.a][x.a], b.Next[p.b][x.b]})
		}
		if len(pairs.values) > api.MaxStates {
			return api.DFA{}, false
		}
		d.Next = append(d.Next, row)
		d.Accept = append(d.Accept, a.Accept[p.a] && b.Accept[p.b])
	}
	return d, true
}

// Same reports whether two automata accept the same paths.
func Same(a, b api.DFA) bool {
	if Check(a) != api.OK || Check(b) != api.OK {
		return false
	}
	_, differ := witness(a, b)
	return !differ
}

// Witness returns the shortest path that only one of two automata accepts, of several the lexicographically least.
func Witness(a, b api.DFA) ([]int, bool) {
	if Check(a) != api.OK || Check(b) != api.OK {
		return nil, false
	}
	return witness(a, b)
}
