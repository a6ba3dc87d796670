package dfa_test

import (
	"maps"
	"math/rand/v2"
	"slices"
	"strconv"
	"strings"
	"testing"

	"routing/api"
	"routing/dfa"
	"routing/regex"
)

// numbers are those of the paths and expressions of the tests.
var numbers = []int{0, 1, 2, 3, 4294967295}

// automaton returns an automaton whose Start is 0.
func automaton(starts []int, accept []bool, next ...[]int) api.DFA {
	return api.DFA{Starts: starts, Next: next, Accept: accept}
}

// parsed returns the expression of a pattern.
func parsed(t *testing.T, s string) api.Regex {
	t.Helper()
	r, e := regex.Parse(s)
	if e != api.OK {
		t.Fatalf("%q is no pattern", s)
	}
	return r
}

// built returns the automaton of a pattern.
func built(t *testing.T, s string) api.DFA {
	t.Helper()
	d, e := dfa.Build(parsed(t, s))
	if e != api.OK {
		t.Fatalf("Build of %q: %v", s, e)
	}
	return d
}

// copied returns an automaton that shares no memory with d.
func copied(d api.DFA) api.DFA {
	c := api.DFA{Starts: slices.Clone(d.Starts), Accept: slices.Clone(d.Accept), Start: d.Start}
	for _, row := range d.Next {
		c.Next = append(c.Next, slices.Clone(row))
	}
	return c
}

// equal is the promise of Equal.
func equal(a, b api.DFA) bool {
	if a.Start != b.Start || len(a.Next) != len(b.Next) || !slices.Equal(a.Starts, b.Starts) || !slices.Equal(a.Accept, b.Accept) {
		return false
	}
	for s := range a.Next {
		if !slices.Equal(a.Next[s], b.Next[s]) {
			return false
		}
	}
	return true
}

// step returns the next state for an AS number, by looking at all classes.
func step(d api.DFA, s, as int) int {
	next := -1
	for c, start := range d.Starts {
		if start <= as {
			next = d.Next[s][c]
		}
	}
	return next
}

// accepts is the promise of Match for an automaton that is well formed.
func accepts(d api.DFA, path []int) bool {
	s := d.Start
	for _, as := range path {
		if as < 0 || as > 4294967295 {
			return false
		}
		s = step(d, s, as)
	}
	return d.Accept[s]
}

// reached returns the states that paths lead to, in the order of the shortest, then least paths.
func reached(d api.DFA) []int {
	l := []int{d.Start}
	for i := 0; i < len(l); i++ {
		for _, s := range d.Next[l[i]] {
			if !slices.Contains(l, s) {
				l = append(l, s)
			}
		}
	}
	return l
}

// distinct returns for all pairs of states whether a path is accepted from only one of them.
func distinct(d api.DFA) [][]bool {
	table := make([][]bool, len(d.Next))
	for s := range table {
		table[s] = make([]bool, len(d.Next))
		for u := range table[s] {
			table[s][u] = d.Accept[s] != d.Accept[u]
		}
	}
	for changed := true; changed; {
		changed = false
		for s := range table {
			for u := range table {
				for c := range d.Starts {
					if !table[s][u] && table[d.Next[s][c]][d.Next[u][c]] {
						table[s][u], changed = true, true
					}
				}
			}
		}
	}
	return table
}

// least is the definition of the minimal automaton, for an automaton that is well formed but for its number of classes.
// The least path to a state of it is the least one to one of the states that it stands for.
func least(d api.DFA) api.DFA {
	table := distinct(d)
	var states []int
	name := func(s int) int {
		return slices.IndexFunc(states, func(u int) bool { return !table[s][u] })
	}
	for _, s := range reached(d) {
		if name(s) < 0 {
			states = append(states, s)
		}
	}
	m := api.DFA{}
	for _, s := range states {
		m.Next = append(m.Next, nil)
		m.Accept = append(m.Accept, d.Accept[s])
	}
	for c, start := range d.Starts {
		column := make([]int, len(states))
		needed := c == 0
		for i, s := range states {
			column[i] = name(d.Next[s][c])
			needed = needed || column[i] != name(d.Next[s][c-1])
		}
		if needed {
			m.Starts = append(m.Starts, start)
			for i := range states {
				m.Next[i] = append(m.Next[i], column[i])
			}
		}
	}
	return m
}

// glushkov are the sets and pairs of the definition of position sets.
type glushkov struct {
	low, high   []int
	first, last map[int]bool
	follows     map[[2]int]bool
}

// structure follows the definition of position sets.
func structure(r api.Regex, g *glushkov) (first, last map[int]bool) {
	first, last = map[int]bool{}, map[int]bool{}
	if r.Kind == api.ReRange || r.Kind == api.ReAny {
		low, high := r.Lo, r.Hi
		if r.Kind == api.ReAny {
			low, high = 0, 4294967295
		}
		p := len(g.low)
		g.low, g.high = append(g.low, low), append(g.high, high)
		first[p], last[p] = true, true
		return first, last
	}
	var firsts, lasts []map[int]bool
	for _, kid := range r.Kids {
		f, l := structure(kid, g)
		firsts, lasts = append(firsts, f), append(lasts, l)
	}
	nullable := func(kids []api.Regex) bool {
		return !slices.ContainsFunc(kids, func(kid api.Regex) bool { return !regex.Nullable(kid) })
	}
	for i := range r.Kids {
		if r.Kind != api.ReSeq || nullable(r.Kids[:i]) {
			maps.Copy(first, firsts[i])
		}
		if r.Kind != api.ReSeq || nullable(r.Kids[i+1:]) {
			maps.Copy(last, lasts[i])
		}
		for j := range r.Kids {
			if r.Kind == api.ReSeq && i < j && nullable(r.Kids[i+1:j]) || r.Kind == api.ReStar || r.Kind == api.RePlus {
				for p := range lasts[i] {
					for q := range firsts[j] {
						g.follows[[2]int{p, q}] = true
					}
				}
			}
		}
	}
	return first, last
}

// positionAutomaton returns the automaton of all position sets of a valid expression, nil if there are more than most.
func positionAutomaton(r api.Regex, most int) *api.DFA {
	g := &glushkov{follows: map[[2]int]bool{}}
	g.first, g.last = structure(r, g)
	starts := []int{0}
	for p := range g.low {
		starts = append(starts, g.low[p])
		if g.high[p] < 4294967295 {
			starts = append(starts, g.high[p]+1)
		}
	}
	slices.Sort(starts)
	d := api.DFA{Starts: slices.Compact(starts)}
	sets, names := [][]int{nil}, map[string]int{"initial": 0}
	for s := 0; s < len(sets); s++ {
		if len(sets) > most {
			return nil
		}
		accept := s == 0 && regex.Nullable(r)
		for _, p := range sets[s] {
			accept = accept || g.last[p]
		}
		var row []int
		for _, as := range d.Starts {
			var set []int
			var name strings.Builder
			for q := range g.low {
				allowed := s == 0 && g.first[q] || slices.ContainsFunc(sets[s], func(p int) bool { return g.follows[[2]int{p, q}] })
				if allowed && g.low[q] <= as && as <= g.high[q] {
					set = append(set, q)
					name.WriteString(strconv.Itoa(q) + " ")
				}
			}
			if _, found := names[name.String()]; !found {
				names[name.String()] = len(sets)
				sets = append(sets, set)
			}
			row = append(row, names[name.String()])
		}
		d.Next, d.Accept = append(d.Next, row), append(d.Accept, accept)
	}
	return &d
}

// witness is the promise of Witness for two well-formed automata: the least paths to all pairs, one length after the
// other.
func witness(a, b api.DFA) ([]int, bool) {
	starts := append(slices.Clone(a.Starts), b.Starts...)
	level := map[[2]int][]int{{a.Start, b.Start}: nil}
	for range len(a.Next)*len(b.Next) + 1 {
		var found []int
		exists := false
		longer := map[[2]int][]int{}
		for pair, path := range level {
			if a.Accept[pair[0]] != b.Accept[pair[1]] && (!exists || slices.Compare(path, found) < 0) {
				found, exists = path, true
			}
			for _, as := range starts {
				next := [2]int{step(a, pair[0], as), step(b, pair[1], as)}
				extended := append(slices.Clone(path), as)
				if old, known := longer[next]; !known || slices.Compare(extended, old) < 0 {
					longer[next] = extended
				}
			}
		}
		if exists {
			return found, true
		}
		level = longer
	}
	return nil, false
}

// product returns the automaton of all pairs of states, for the paths that both accept.
func product(a, b api.DFA) api.DFA {
	starts := append(slices.Clone(a.Starts), b.Starts...)
	slices.Sort(starts)
	d := api.DFA{Starts: slices.Compact(starts), Start: a.Start*len(b.Next) + b.Start}
	for s := range a.Next {
		for u := range b.Next {
			var row []int
			for _, as := range d.Starts {
				row = append(row, step(a, s, as)*len(b.Next)+step(b, u, as))
			}
			d.Next, d.Accept = append(d.Next, row), append(d.Accept, a.Accept[s] && b.Accept[u])
		}
	}
	return d
}

// anyAutomaton returns a well-formed automaton with few states and classes.
func anyAutomaton(r *rand.Rand, states int) api.DFA {
	d := api.DFA{Starts: []int{0}, Start: r.IntN(states)}
	for _, start := range []int{1, 2, 3, 4, 4294967295} {
		if r.IntN(3) == 0 {
			d.Starts = append(d.Starts, start)
		}
	}
	for range states {
		var row []int
		for range d.Starts {
			row = append(row, r.IntN(states))
		}
		d.Next, d.Accept = append(d.Next, row), append(d.Accept, r.IntN(3) == 0)
	}
	return d
}

// similar returns an automaton that often accepts the same paths as d: some of its states are doubled, a class is
// divided, and rarely something is different.
func similar(r *rand.Rand, d api.DFA) api.DFA {
	d = copied(d)
	for range r.IntN(3) {
		twin := r.IntN(len(d.Next))
		d.Next, d.Accept = append(d.Next, slices.Clone(d.Next[twin])), append(d.Accept, d.Accept[twin])
		for _, row := range d.Next {
			for c := range row {
				if row[c] == twin && r.IntN(2) == 0 {
					row[c] = len(d.Next) - 1
				}
			}
		}
	}
	if at, start := r.IntN(len(d.Starts)), r.IntN(6); !slices.Contains(d.Starts, start) && d.Starts[at] < start && (at+1 == len(d.Starts) || start < d.Starts[at+1]) {
		d.Starts = slices.Insert(d.Starts, at+1, start)
		for s, row := range d.Next {
			d.Next[s] = slices.Insert(row, at+1, row[at])
		}
	}
	if r.IntN(3) == 0 {
		d.Next[r.IntN(len(d.Next))][r.IntN(len(d.Starts))] = r.IntN(len(d.Next))
	}
	if r.IntN(6) == 0 {
		s := r.IntN(len(d.Next))
		d.Accept[s] = !d.Accept[s]
	}
	return d
}

// anyRegex returns a well-formed expression with about so many nodes.
func anyRegex(r *rand.Rand, size, levels int) api.Regex {
	if size <= 1 || levels <= 1 {
		lo, hi := numbers[r.IntN(5)], numbers[r.IntN(5)]
		return []api.Regex{
			{Kind: api.ReEmpty}, {Kind: api.ReAlt}, {Kind: api.ReAny}, {Kind: api.ReRange, Lo: min(lo, hi), Hi: max(lo, hi)},
			{Kind: api.ReRange, Lo: lo, Hi: lo}, {Kind: api.ReRange, Lo: hi, Hi: hi}, {Kind: api.ReRange, Lo: lo, Hi: lo},
		}[r.IntN(7)]
	}
	kind := []int{api.ReSeq, api.ReSeq, api.ReAlt, api.ReStar, api.RePlus, api.ReOpt}[r.IntN(6)]
	x := api.Regex{Kind: kind}
	count := 1
	if kind == api.ReSeq || kind == api.ReAlt {
		count = 2 + r.IntN(2)
	}
	for range count {
		x.Kids = append(x.Kids, anyRegex(r, (size-1)/count, levels-1))
	}
	return x
}

// anyPath returns a path, sometimes with an integer that is no AS number.
func anyPath(r *rand.Rand, length int) []int {
	var path []int
	for range length {
		path = append(path, numbers[r.IntN(5)])
	}
	if length > 0 && r.IntN(10) == 0 {
		path[r.IntN(length)] = []int{-1, 1 << 32, -1 << 63, 1<<63 - 1}[r.IntN(4)]
	}
	return path
}
