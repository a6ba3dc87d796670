package dfa

import (
	"slices"

	"routing/api"
)

// visit is a pair of states, to which a number leads from the pair of another visit.
type visit struct {
	pair   pair
	before int // the other visit, -1 at the start
	as     int
}

// search visits pairs of states in the order of the least paths that lead to them, shorter ones first, and joins the
// states of each pair. A pair whose states are joined already is left out: if only one of them accepts a path, this is
// so for another pair by which they were joined, and the path to that pair is less.
type search struct {
	a, b   api.DFA
	joined []int // for each state of a, then of b, itself or another one that it is joined with
	visits []visit
}

// witness is Witness for well-formed automata.
func witness(a, b api.DFA) ([]int, bool) {
	w := search{a: a, b: b, joined: make([]int, len(a.Next)+len(b.Next))}
	for s := range w.joined {
		w.joined[s] = s
	}
	if w.visit(visit{pair: pair{a.Start, b.Start}, before: -1}) {
		return nil, true
	}
	classes := commons(a, b)
	for i := 0; i < len(w.visits); i++ {
		p := w.visits[i].pair
		last := pair{-1, -1}
		for _, x := range classes {
			next := pair{a.Next[p.a][x.a], b.Next[p.b][x.b]}
			// Most classes lead to the same states as the one before.
			if next == last {
				continue
			}
			last = next
			if w.visit(visit{pair: next, before: i, as: x.start}) {
				return w.path(), true
			}
		}
	}
	return nil, false
}

// visit adds a visit unless its states are joined, and reports whether it is added and exactly one of them accepts.
func (w *search) visit(v visit) bool {
	x, y := w.find(v.pair.a), w.find(len(w.a.Next)+v.pair.b)
	if x == y {
		return false
	}
	w.joined[x] = y
	w.visits = append(w.visits, v)
	return w.a.Accept[v.pair.a] != w.b.Accept[v.pair.b]
}

// find returns the same state for all states that are joined with s.
func (w *search) find(s int) int {
	for w.joined[s] != s {
		w.joined[s] = w.joined[w.joined[s]]
		s = w.joined[s]
	}
	return s
}

// path returns the path of the last visit.
func (w *search) path() []int {
	var l []int
	for v := w.visits[len(w.visits)-1]; v.before >= 0; v = w.visits[v.before] {
		l = append(l, v.as)
	}
	slices.Reverse(l)
	return l
}
