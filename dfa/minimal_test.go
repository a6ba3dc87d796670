package dfa_test

import (
	"math/rand/v2"
	"slices"
	"testing"

	"routing/api"
	"routing/dfa"
)

// P16.4
func TestMinimal(t *testing.T) {
	r := rand.New(rand.NewPCG(16, 4))
	smaller, fewer := 0, 0
	for range 20000 {
		d := anyAutomaton(r, 1+r.IntN(9))
		if r.IntN(2) == 0 {
			d = similar(r, d)
		}
		m, e := dfa.Minimal(d)
		if want := least(d); e != api.OK || !equal(m, want) {
			t.Fatalf("Minimal(%v) = %v, %v instead of %v", d, m, e, want)
		}
		if again, e := dfa.Minimal(m); e != api.OK || !equal(again, m) {
			t.Fatalf("Minimal of the minimal automaton %v is %v", m, again)
		}
		if len(m.Next) < len(d.Next) {
			smaller++
		}
		if len(m.Starts) < len(d.Starts) {
			fewer++
		}
	}
	if smaller < 2000 || fewer < 2000 {
		t.Error("only", smaller, "automata lose states,", fewer, "classes")
	}
}

// P16.4: automata of the greatest sizes.
func TestMinimalLarge(t *testing.T) {
	const states = 4096
	// A path of so many numbers, all of them alike or not in the last step, and a state after it.
	line := func(classes int, last func(c int) int) api.DFA {
		d := uniform(states, classes)
		for s, row := range d.Next {
			for c := range row {
				row[c] = min(s+1, states-1)
			}
		}
		for c := range classes {
			d.Next[states-2][c] = last(c)
		}
		d.Accept[states-1] = true
		return d
	}
	plain := line(2, func(int) int { return states - 1 })
	m, e := dfa.Minimal(plain)
	if e != api.OK || len(m.Next) != states || !slices.Equal(m.Starts, []int{0}) || !dfa.Same(m, plain) {
		t.Error("a line:", len(m.Next), m.Starts, e)
	}
	forked := line(2000, func(c int) int { return states - 1 - c%2*7 })
	if m, e := dfa.Minimal(forked); e != api.OK || !equal(m, forked) {
		t.Error("a line with many classes:", len(m.Next), len(m.Starts), e)
	}
	// All states accept, or all that are reached.
	whole := uniform(states, 2000)
	whole.Accept = slices.Repeat([]bool{true}, states)
	if m, e := dfa.Minimal(whole); e != api.OK || !equal(m, built(t, ".*")) {
		t.Error("all states accept:", len(m.Next), len(m.Starts), e)
	}
	whole.Accept[states-1] = false
	if m, e := dfa.Minimal(whole); e != api.OK || !equal(m, built(t, ".*")) {
		t.Error("all states that are reached accept:", len(m.Next), len(m.Starts), e)
	}
	// A ring in which every fourth state accepts.
	ring := uniform(states, 1)
	for s := range states {
		ring.Next[s][0], ring.Accept[s] = (s+1)%states, s%4 == 1
	}
	ring.Start = 77
	if m, e := dfa.Minimal(ring); e != api.OK || !equal(m, automaton([]int{0}, []bool{true, false, false, false}, []int{1}, []int{2}, []int{3}, []int{0})) {
		t.Error("a ring:", len(m.Next), e)
	}
}

// P16.4: the errors of Check.
func TestMinimalErrors(t *testing.T) {
	for _, d := range broken() {
		if m, e := dfa.Minimal(d); e == api.OK || e != dfa.Check(d) || !equal(m, api.DFA{}) {
			t.Errorf("Minimal(%v): %v", d, e)
		}
	}
}

// P16.10
func TestNormalForm(t *testing.T) {
	r := rand.New(rand.NewPCG(16, 10))
	same := 0
	for range 10000 {
		a := anyAutomaton(r, 1+r.IntN(5))
		b := similar(r, a)
		x, e := dfa.Minimal(a)
		y, f := dfa.Minimal(b)
		if e != api.OK || f != api.OK || dfa.Same(a, b) != dfa.Equal(x, y) {
			t.Fatalf("Minimal of %v and %v: %v and %v", a, b, x, y)
		}
		if dfa.Same(a, b) {
			same++
		}
	}
	if same < 3000 || same > 9000 {
		t.Error(same, "pairs accept the same paths")
	}
}
