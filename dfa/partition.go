package dfa

import (
	"slices"

	"routing/api"
)

// equivalent returns a number for each state of d, the same one for two states if the same paths are accepted from both.
// Blocks of states are divided until no class leads from one block to two.
func equivalent(d api.DFA) []int {
	p := newPartition(len(d.Next))
	for s, accept := range d.Accept {
		if accept {
			p.mark(s)
		}
	}
	p.divide(0)
	classes := sources(d)
	for len(p.waiting) > 0 && len(p.blocks) < len(d.Next) {
		// The block itself may be divided before all classes have been considered.
		targets := p.take()
		for _, f := range classes {
			p.divideAll(f, targets)
		}
	}
	return p.number
}

// source is a list of states, sorted by the state to which a class leads from them: those from which it leads to s are
// at the places from first[s] to first[s+1]-1. (The numbers are small, and many of them may be needed.)
type source struct {
	states, first []int32
}

// sources returns the source for each class.
func sources(d api.DFA) []source {
	l := make([]source, len(d.Starts))
	for c := range l {
		first := make([]int32, len(d.Next)+1)
		for _, row := range d.Next {
			first[row[c]]++
		}
		for s, end := 0, int32(0); s < len(first); s++ {
			end += first[s]
			first[s] = end
		}
		states := make([]int32, len(d.Next))
		for s, row := range d.Next {
			first[row[c]]--
			states[first[row[c]]] = int32(s)
		}
		l[c] = source{states, first}
	}
	return l
}

// leading returns the states from which the class leads to s.
func (f source) leading(s int) []int32 { return f.states[f.first[s]:f.first[s+1]] }

// block is a part of the states of a partition.
type block struct {
	first, size int
	marked      int // so many states at its beginning are marked
	waits       bool
}

// partition divides states into blocks. The blocks that wait are those that may divide others.
type partition struct {
	states  []int // block by block
	place   []int // of each state in states
	number  []int // of the block of each state
	blocks  []block
	waiting []int
}

// newPartition returns a partition of n states into one block, which waits.
func newPartition(n int) *partition {
	p := &partition{number: make([]int, n), blocks: []block{{size: n, waits: true}}, waiting: []int{0}}
	for s := range n {
		p.states, p.place = append(p.states, s), append(p.place, s)
	}
	return p
}

// take returns the states of a block that waits, which then does not wait any more.
func (p *partition) take() []int {
	last := len(p.waiting) - 1
	b := &p.blocks[p.waiting[last]]
	p.waiting, b.waits = p.waiting[:last], false
	return slices.Clone(p.states[b.first : b.first+b.size])
}

// mark marks a state, which is not marked, and reports whether no other state of its block is marked.
func (p *partition) mark(s int) bool {
	b := &p.blocks[p.number[s]]
	from, to := p.place[s], b.first+b.marked
	other := p.states[to]
	p.states[from], p.states[to] = other, s
	p.place[other], p.place[s] = from, to
	b.marked++
	return b.marked == 1
}

// divideAll divides each block by whether a class, given by its source, leads from its states to targets.
func (p *partition) divideAll(f source, targets []int) {
	var met []int
	for _, target := range targets {
		for _, s := range f.leading(target) {
			if p.mark(int(s)) {
				met = append(met, p.number[s])
			}
		}
	}
	for _, n := range met {
		p.divide(n)
	}
}

// divide removes the marks of a block and makes its marked states a new block, unless it has no other ones.
func (p *partition) divide(n int) {
	b := &p.blocks[n]
	part := block{first: b.first, size: b.marked}
	b.marked = 0
	if part.size == 0 || part.size == b.size {
		return
	}
	b.first, b.size = b.first+part.size, b.size-part.size
	for _, s := range p.states[part.first:b.first] {
		p.number[s] = len(p.blocks)
	}
	p.blocks = append(p.blocks, part)
	// If the undivided block does not wait, one part suffices: the other one divides a block as both of them do.
	if p.blocks[n].waits || part.size <= p.blocks[n].size {
		p.wait(len(p.blocks) - 1)
	} else {
		p.wait(n)
	}
}

// wait lets a block wait.
func (p *partition) wait(n int) {
	p.blocks[n].waits = true
	p.waiting = append(p.waiting, n)
}
