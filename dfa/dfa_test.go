package dfa_test

import (
	"math"
	"math/rand/v2"
	"slices"
	"testing"

	"routing/api"
	"routing/dfa"
)

// steps returns so many numbers, from 0 on in steps.
func steps(n, step int) []int {
	var l []int
	for i := range n {
		l = append(l, i*step)
	}
	return l
}

// uniform returns an automaton with so many states and classes, which all lead to the state 0.
func uniform(states, classes int) api.DFA {
	d := api.DFA{Starts: steps(classes, 1), Accept: make([]bool, states)}
	for range states {
		d.Next = append(d.Next, make([]int, classes))
	}
	return d
}

// fault makes an automaton wrong. Of several faults the one with the least rank counts.
type fault struct {
	name string
	rank int
	err  api.Errno
	make func(d *api.DFA)
}

// faults returns faults of an automaton with four states and three classes.
func faults() []fault {
	return []fault{
		{"4097 elements of Accept", 1, api.ErrTooLong, func(d *api.DFA) { d.Accept = make([]bool, 4097) }},
		{"4097 rows", 1, api.ErrTooLong, func(d *api.DFA) { d.Next = make([][]int, 4097) }},
		{"2001 classes", 1, api.ErrTooLong, func(d *api.DFA) { d.Starts = steps(2001, 7) }},
		{"2001 classes in the wrong order", 1, api.ErrTooLong, func(d *api.DFA) { d.Starts = make([]int, 2001) }},
		{"no classes", 2, api.ErrOrder, func(d *api.DFA) { d.Starts = nil }},
		{"first start 1", 2, api.ErrOrder, func(d *api.DFA) { d.Starts = []int{1, 7, 9} }},
		{"first start -1", 2, api.ErrOrder, func(d *api.DFA) { d.Starts = []int{-1, 7, 9} }},
		{"equal starts", 2, api.ErrOrder, func(d *api.DFA) { d.Starts = []int{0, 7, 7} }},
		{"first two starts equal", 2, api.ErrOrder, func(d *api.DFA) { d.Starts = []int{0, 0, 7} }},
		{"descending starts", 2, api.ErrOrder, func(d *api.DFA) { d.Starts = []int{0, 7, 6} }},
		{"negative start", 2, api.ErrOrder, func(d *api.DFA) { d.Starts = []int{0, -7, 6} }},
		{"last start too large", 2, api.ErrOrder, func(d *api.DFA) { d.Starts = []int{0, 7, 1 << 32} }},
		{"start far too large", 2, api.ErrOrder, func(d *api.DFA) { d.Starts = []int{0, 7, math.MaxInt} }},
		{"no rows", 3, api.ErrMismatch, func(d *api.DFA) { d.Next = nil }},
		{"no states", 3, api.ErrMismatch, func(d *api.DFA) { d.Next, d.Accept = nil, nil }},
		{"one row more", 3, api.ErrMismatch, func(d *api.DFA) { d.Next = append(d.Next, []int{0, 0, 0}) }},
		{"one row less", 3, api.ErrMismatch, func(d *api.DFA) { d.Next = d.Next[:max(len(d.Next)-1, 0)] }},
		{"one element of Accept more", 3, api.ErrMismatch, func(d *api.DFA) { d.Accept = append(d.Accept, true) }},
		{"last row short", 3, api.ErrMismatch, func(d *api.DFA) {
			if len(d.Next) > 3 {
				d.Next[3] = []int{0, 0}
			}
		}},
		{"first row long", 3, api.ErrMismatch, func(d *api.DFA) {
			if len(d.Next) > 0 {
				d.Next[0] = []int{0, 0, 0, 0}
			}
		}},
		{"two classes more", 3, api.ErrMismatch, func(d *api.DFA) { d.Starts = []int{0, 7, 9, 11, 4294967295} }},
		{"Start -1", 4, api.ErrRange, func(d *api.DFA) { d.Start = -1 }},
		{"Start 4", 4, api.ErrRange, func(d *api.DFA) { d.Start = 4 }},
		{"Start far too large", 4, api.ErrRange, func(d *api.DFA) { d.Start = math.MaxInt }},
		{"last next state 4", 4, api.ErrRange, func(d *api.DFA) { setLast(d, 4) }},
		{"last next state -1", 4, api.ErrRange, func(d *api.DFA) { setLast(d, -1) }},
		{"last next state far too small", 4, api.ErrRange, func(d *api.DFA) { setLast(d, math.MinInt) }},
	}
}

// setLast changes the last transition.
func setLast(d *api.DFA, to int) {
	if n := len(d.Next); n > 0 && len(d.Next[n-1]) > 0 {
		d.Next[n-1][len(d.Next[n-1])-1] = to
	}
}

func valid() api.DFA {
	return api.DFA{Starts: []int{0, 7, 9}, Next: [][]int{{0, 1, 2}, {3, 0, 1}, {2, 3, 0}, {1, 2, 3}}, Accept: []bool{true, false, false, true}, Start: 3}
}

// P16.1: each fault, and each pair of faults of which the one that is checked first counts.
func TestCheck(t *testing.T) {
	if e := dfa.Check(valid()); e != api.OK {
		t.Error("a well-formed automaton:", e)
	}
	for _, x := range faults() {
		d := valid()
		x.make(&d)
		if e := dfa.Check(d); e != x.err {
			t.Errorf("%s: %v instead of %v", x.name, e, x.err)
		}
		for _, y := range faults() {
			if y.rank <= x.rank {
				continue
			}
			both := valid()
			y.make(&both)
			x.make(&both)
			if e := dfa.Check(both); e != x.err {
				t.Errorf("%s and %s: %v instead of %v", x.name, y.name, e, x.err)
			}
		}
	}
	if e := dfa.Check(api.DFA{}); e != api.ErrOrder {
		t.Error("the zero value:", e)
	}
}

// P16.1: the limits.
func TestCheckLimits(t *testing.T) {
	for _, x := range []struct {
		states, classes int
		e               api.Errno
	}{{1, 1, api.OK}, {4096, 1, api.OK}, {4097, 1, api.ErrTooLong}, {1, 2000, api.OK}, {1, 2001, api.ErrTooLong}, {4096, 2000, api.OK}, {0, 1, api.ErrMismatch}, {1, 0, api.ErrOrder}} {
		if e := dfa.Check(uniform(x.states, x.classes)); e != x.e {
			t.Errorf("%d states and %d classes: %v", x.states, x.classes, e)
		}
	}
	d := valid()
	d.Starts[2] = 4294967295
	if e := dfa.Check(d); e != api.OK {
		t.Error("the greatest start:", e)
	}
	last := uniform(4096, 2000)
	last.Next[4095][1999], last.Start = 4095, 4095
	if e := dfa.Check(last); e != api.OK {
		t.Error("the last state:", e)
	}
	last.Next[4095][1999] = 4096
	if e := dfa.Check(last); e != api.ErrRange {
		t.Error("a state after the last one:", e)
	}
}

// broken returns automata that are not well formed.
func broken() []api.DFA {
	l := []api.DFA{{}}
	for _, x := range faults() {
		d := valid()
		x.make(&d)
		l = append(l, d)
	}
	return l
}

// P16.3
func TestMatch(t *testing.T) {
	r := rand.New(rand.NewPCG(16, 3))
	accepted := 0
	for range 20000 {
		d := anyAutomaton(r, 1+r.IntN(6))
		path := anyPath(r, r.IntN(10))
		for i := range path {
			if r.IntN(3) == 0 {
				path[i] += r.IntN(5) - 2
			}
		}
		got := dfa.Match(d, path)
		if got != accepts(d, path) {
			t.Fatalf("Match(%v, %v) = %v", d, path, got)
		}
		if got {
			accepted++
		}
	}
	if accepted < 4000 {
		t.Error("only", accepted, "paths are accepted")
	}
	all := automaton([]int{0}, []bool{true}, []int{0})
	for _, as := range []int{-1, 1 << 32, 1<<32 + 1, -1 << 32, math.MinInt, math.MaxInt} {
		if dfa.Match(all, []int{as}) || dfa.Match(all, []int{1, as, 1}) {
			t.Error("a path with", as, "is accepted")
		}
	}
	if !dfa.Match(all, nil) || !dfa.Match(all, []int{0, 4294967295}) {
		t.Error("a path of AS numbers is not accepted")
	}
	for _, d := range broken() {
		for i := range d.Accept {
			d.Accept[i] = true
		}
		if dfa.Match(d, nil) || dfa.Match(d, []int{1}) {
			t.Errorf("%v accepts a path", d)
		}
	}
}

// P16.6, P16.11
func TestNot(t *testing.T) {
	r := rand.New(rand.NewPCG(16, 6))
	for range 5000 {
		d := anyAutomaton(r, 1+r.IntN(6))
		n := dfa.Not(d)
		want := copied(d)
		for s := range want.Accept {
			want.Accept[s] = !want.Accept[s]
		}
		if !equal(n, want) || !equal(dfa.Not(n), d) {
			t.Fatalf("Not(%v) = %v", d, n)
		}
		for range 5 {
			path := anyPath(r, r.IntN(6))
			exists := !slices.ContainsFunc(path, func(as int) bool { return as < 0 || as > 4294967295 })
			if dfa.Match(n, path) != (exists && !dfa.Match(d, path)) {
				t.Fatalf("Not(%v) on %v", d, path)
			}
		}
		m, e := dfa.Minimal(d)
		if again, f := dfa.Minimal(dfa.Not(m)); e != api.OK || f != api.OK || !equal(again, dfa.Not(m)) {
			t.Fatalf("Not of %v is not minimal", m)
		}
	}
	for _, d := range broken() {
		if n := dfa.Not(d); !equal(n, api.DFA{}) {
			t.Errorf("Not(%v) = %v", d, n)
		}
	}
}

// P16.8
func TestEqual(t *testing.T) {
	automata := append(broken(), valid(), uniform(4, 3), uniform(4, 2), uniform(3, 3))
	r := rand.New(rand.NewPCG(16, 8))
	for range 100 {
		d := anyAutomaton(r, 1+r.IntN(2))
		automata = append(automata, d, copied(d))
	}
	for _, change := range []func(d *api.DFA){
		func(d *api.DFA) { d.Start = 2 }, func(d *api.DFA) { d.Accept[3] = false }, func(d *api.DFA) { d.Starts[2] = 10 }, func(d *api.DFA) { d.Next[3][2] = 0 },
		func(d *api.DFA) { d.Next[3] = d.Next[3][:2] }, func(d *api.DFA) { d.Next = d.Next[:3] }, func(d *api.DFA) { d.Starts = d.Starts[:2] }, func(d *api.DFA) { d.Accept = d.Accept[:3] },
		func(d *api.DFA) { d.Next[0], d.Next[1] = d.Next[1], d.Next[0] },
	} {
		d := valid()
		change(&d)
		automata = append(automata, d)
	}
	for i, a := range automata {
		for j, b := range automata {
			if dfa.Equal(a, b) != equal(a, b) {
				t.Errorf("Equal(%v, %v) = %v", a, b, dfa.Equal(a, b))
			}
			if i == j && !dfa.Equal(a, copied(b)) {
				t.Errorf("Equal(%v, %v) = false", a, b)
			}
		}
	}
	if !dfa.Equal(api.DFA{}, api.DFA{Starts: []int{}, Next: [][]int{}, Accept: []bool{}}) || !dfa.Equal(api.DFA{Next: [][]int{nil}}, api.DFA{Next: [][]int{{}}}) {
		t.Error("empty lists and none differ")
	}
	valued := valid()
	valued.Next = append(valued.Next, nil)
	if dfa.Equal(valued, valid()) || dfa.Equal(valid(), valued) {
		t.Error("automata with different numbers of rows are equal")
	}
}
