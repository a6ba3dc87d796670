package dfa

import (
	"slices"

	"routing/api"
	"routing/regex"
)

// Build returns the minimal automaton of an expression, its states numbered in the order in which they are first reached.
func Build(r api.Regex) (api.DFA, api.Errno) {
	if err := regex.Check(r); err != api.OK {
		return api.DFA{}, err
	}
	var p positions
	first, last := p.add(r)
	starts := p.starts()
	matching := make([]uint64, len(starts))
	for c, as := range starts {
		matching[c] = p.matching(as)
	}
	d := api.DFA{Starts: starts}
	// The initial set is not in the map, since it differs from all sets of positions.
	sets := numbering[uint64]{values: []uint64{0}, numbers: map[uint64]int{}}
	for s := 0; s < len(sets.values); s++ {
		set := sets.values[s]
		after, accept := p.after(set), set&last != 0
		if s == 0 {
			after, accept = first, regex.Nullable(r)
		}
		row := make([]int, len(starts))
		for c, match := range matching {
			row[c] = sets.number(after & match)
		}
		if len(sets.values) > api.MaxStates {
			return api.DFA{}, api.ErrFull
		}
		d.Next = append(d.Next, row)
		d.Accept = append(d.Accept, accept)
	}
	return minimal(d), api.OK
}

// positions are the positions of a valid expression. A set of them is a word with a bit for each, since an expression
// has at most MaxList nodes.
type positions struct {
	low, high []int
	follow    []uint64
}

// add adds the positions of a node and the pairs that follow each other within it, and returns the sets first and last.
func (p *positions) add(r api.Regex) (first, last uint64) {
	switch r.Kind {
	case api.ReRange:
		return p.position(r.Lo, r.Hi)
	case api.ReAny:
		return p.position(0, api.MaxAS)
	case api.ReSeq:
		return p.sequence(r.Kids)
	}
	for _, kid := range r.Kids {
		f, l := p.add(kid)
		first, last = first|f, last|l
	}
	if r.Kind == api.ReStar || r.Kind == api.RePlus {
		p.connect(last, first)
	}
	return first, last
}

// position adds a position.
func (p *positions) position(low, high int) (first, last uint64) {
	bit := uint64(1) << len(p.follow)
	p.low = append(p.low, low)
	p.high = append(p.high, high)
	p.follow = append(p.follow, 0)
	return bit, bit
}

// sequence is add for a sequence.
func (p *positions) sequence(kids []api.Regex) (first, last uint64) {
	skipped := true
	for _, kid := range kids {
		f, l := p.add(kid)
		p.connect(last, f)
		if skipped {
			first |= f
		}
		if !regex.Nullable(kid) {
			skipped, last = false, 0
		}
		last |= l
	}
	return first, last
}

// connect lets each position of a set be followed by those of another one.
func (p *positions) connect(set, next uint64) {
	for i := range p.follow {
		if set>>i&1 == 1 {
			p.follow[i] |= next
		}
	}
}

// after returns the positions that follow one of a set.
func (p *positions) after(set uint64) uint64 {
	next := uint64(0)
	for i, follow := range p.follow {
		if set>>i&1 == 1 {
			next |= follow
		}
	}
	return next
}

// matching returns the positions that match an AS number.
func (p *positions) matching(as int) uint64 {
	set := uint64(0)
	for i := range p.follow {
		if p.low[i] <= as && as <= p.high[i] {
			set |= 1 << i
		}
	}
	return set
}

// starts returns the numbers that some position tells from the number before, and 0.
func (p *positions) starts() []int {
	l := []int{0}
	for i := range p.follow {
		l = append(l, p.low[i])
		if p.high[i] < api.MaxAS {
			l = append(l, p.high[i]+1)
		}
	}
	slices.Sort(l)
	return slices.Compact(l)
}
