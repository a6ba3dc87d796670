package dfa_test

import (
	"math/rand/v2"
	"slices"
	"testing"

	"routing/api"
	"routing/dfa"
)

// P16.5
func TestWitness(t *testing.T) {
	a, b := built(t, "."), built(t, "65001")
	if w, ok := dfa.Witness(a, b); !ok || !slices.Equal(w, []int{0}) {
		t.Error("Witness of . and 65001", w, ok)
	}
	if w, ok := dfa.Witness(built(t, "[5-9]*"), built(t, "[5-9]+")); !ok || len(w) != 0 {
		t.Error("Witness of [5-9]* and [5-9]+", w, ok)
	}
	r := rand.New(rand.NewPCG(16, 5))
	lengths := map[int]int{}
	same := 0
	for range 20000 {
		a := anyAutomaton(r, 1+r.IntN(5))
		b := anyAutomaton(r, 1+r.IntN(5))
		if r.IntN(4) > 0 {
			b = similar(r, a)
		}
		if r.IntN(2) == 0 {
			a, b = b, a
		}
		want, differ := witness(a, b)
		w, ok := dfa.Witness(a, b)
		if ok != differ || !slices.Equal(w, want) || dfa.Same(a, b) == differ {
			t.Fatalf("Witness(%v, %v) = %v, %v instead of %v, %v", a, b, w, ok, want, differ)
		}
		if differ {
			lengths[len(w)]++
			if dfa.Match(a, w) == dfa.Match(b, w) {
				t.Fatalf("%v and %v treat %v alike", a, b, w)
			}
		} else {
			same++
		}
	}
	if same < 3000 || lengths[0] < 500 || lengths[1] < 500 || lengths[2] < 500 || lengths[3] < 100 || lengths[4] < 10 {
		t.Error(same, "pairs are the same, others differ in paths of these lengths:", lengths)
	}
}

// cycle returns an automaton that reads any numbers, first so many, then in a cycle of so many states, of which the last
// one accepts.
func cycle(tail, length int) api.DFA {
	d := uniform(tail+length, 1)
	for s := range d.Next {
		d.Next[s][0] = s + 1
	}
	d.Next[tail+length-1][0] = tail
	d.Accept[tail+length-1] = true
	return d
}

// P16.5: automata with many states, and many pairs of them.
func TestWitnessLarge(t *testing.T) {
	for _, x := range []struct {
		a, b api.DFA
		want int
	}{
		{cycle(0, 4096), cycle(0, 4095), 4094}, {cycle(0, 4096), cycle(2048, 2048), 2*4096 - 2048 - 1}, {cycle(4095, 1), cycle(4094, 1), 4094},
		{cycle(96, 4000), cycle(96, 2000), 96 + 1999}, {cycle(0, 4096), dfa.Not(cycle(0, 4096)), 0},
	} {
		w, ok := dfa.Witness(x.a, x.b)
		if !ok || len(w) != x.want || slices.Max(append(w, 0)) != 0 || dfa.Same(x.b, x.a) {
			t.Errorf("the witness has the length %d instead of %d", len(w), x.want)
		}
	}
	if w, ok := dfa.Witness(cycle(0, 1), uniform(4096, 2000)); !ok || len(w) != 0 {
		t.Error("the witness of all and no paths is", w, ok)
	}
	// Both read a number of 2000 classes at each of many steps, and differ in the last class of the last step.
	a := uniform(3000, 2000)
	for s, row := range a.Next {
		for c := range row {
			row[c] = (s*7 + c + 1) % 3000
		}
		a.Accept[s] = s%5 == 0
	}
	b := copied(a)
	b.Next = append(b.Next, slices.Clone(b.Next[0]))
	b.Accept = append(b.Accept, true)
	for s, row := range b.Next {
		for c := range row {
			if row[c] == 0 && s%2 == 0 {
				row[c] = 3000
			}
		}
	}
	if w, ok := dfa.Witness(a, b); ok || len(w) != 0 || !dfa.Same(a, b) {
		t.Error("automata that accept the same paths have the witness", w, ok)
	}
}

// P16.5, P16.7: automata that are not well formed.
func TestBrokenPairs(t *testing.T) {
	good := valid()
	for _, d := range broken() {
		for _, pair := range [][2]api.DFA{{d, good}, {good, d}, {d, d}, {good, good}} {
			e := dfa.Check(pair[0])
			if e == api.OK {
				e = dfa.Check(pair[1])
			}
			w, ok := dfa.Witness(pair[0], pair[1])
			if ok || len(w) != 0 || dfa.Same(pair[0], pair[1]) != (e == api.OK) {
				t.Errorf("Witness of %v and %v: %v, %v", pair[0], pair[1], w, ok)
			}
			both, f := dfa.Both(pair[0], pair[1])
			if f != e || e != api.OK && !equal(both, api.DFA{}) {
				t.Errorf("Both of %v and %v: %v instead of %v", pair[0], pair[1], f, e)
			}
		}
		for _, x := range broken() {
			if _, e := dfa.Both(d, x); e != dfa.Check(d) {
				t.Errorf("Both of %v and %v: %v", d, x, e)
			}
		}
	}
}

// P16.7
func TestBoth(t *testing.T) {
	if d, e := dfa.Both(built(t, ".* 5"), built(t, "5 .*")); e != api.OK || !equal(d, built(t, "5|5 .* 5")) {
		t.Error("Both of .* 5 and 5 .*:", d, e)
	}
	r := rand.New(rand.NewPCG(16, 7))
	sizes := map[int]int{}
	for range 10000 {
		a, b := anyAutomaton(r, 1+r.IntN(5)), anyAutomaton(r, 1+r.IntN(5))
		d, e := dfa.Both(a, b)
		if want := least(product(a, b)); e != api.OK || !equal(d, want) {
			t.Fatalf("Both(%v, %v) = %v, %v instead of %v", a, b, d, e, want)
		}
		for range 3 {
			path := anyPath(r, r.IntN(6))
			if dfa.Match(d, path) != (dfa.Match(a, path) && dfa.Match(b, path)) {
				t.Fatalf("Both(%v, %v) on %v", a, b, path)
			}
		}
		sizes[len(d.Next)]++
	}
	for n := 1; n < 10; n++ {
		if sizes[n] < 30 {
			t.Error("only", sizes[n], "intersections have", n, "states")
		}
	}
}

// P16.7: the number of pairs that can be reached is limited.
func TestBothFull(t *testing.T) {
	grown := func(d api.DFA, states int) api.DFA {
		for range states {
			d.Next, d.Accept = append(d.Next, []int{0}), append(d.Accept, true)
		}
		return d
	}
	for _, x := range []struct {
		a, b   api.DFA
		pairs  int
		states int
	}{
		{cycle(0, 63), cycle(0, 65), 4095, 4095}, {cycle(1, 63), cycle(0, 65), 4096, 4095}, {cycle(0, 63), cycle(1, 65), 4096, 4095}, {cycle(0, 63), cycle(2, 65), 4097, 0}, {cycle(0, 17), cycle(0, 241), 4097, 0},
		{cycle(0, 4096), cycle(0, 4096), 4096, 4096}, {cycle(0, 4096), cycle(0, 2048), 4096, 4096}, {cycle(0, 4096), cycle(0, 3), 12288, 0},
		{grown(cycle(0, 63), 4000), grown(cycle(0, 65), 4000), 4095, 4095}, {cycle(0, 4096), automaton([]int{0}, []bool{true}, []int{0}), 4096, 4096},
		// No path is accepted, but the pairs are too many.
		{cycle(0, 64), uniform(1, 1), 64, 1}, {dfa.Not(cycle(0, 1)), cycle(0, 4096), 4096, 1}, {dfa.Not(cycle(1, 4095)), cycle(0, 2), 0, 0},
	} {
		d, e := dfa.Both(x.a, x.b)
		if x.states > 0 && (e != api.OK || len(d.Next) != x.states) || x.states == 0 && (e != api.ErrFull || !equal(d, api.DFA{})) {
			t.Errorf("Both with %d pairs has %d states, %v", x.pairs, len(d.Next), e)
		}
	}
}

// P16.7: the number of classes of the minimal automaton is limited, not that of the pairs.
func TestBothClasses(t *testing.T) {
	// After one number, of a class with an even place in starts, all numbers are accepted.
	striped := func(starts []int) api.DFA {
		d := api.DFA{Starts: starts, Next: [][]int{nil, nil, nil}, Accept: []bool{false, true, false}}
		for c := range starts {
			d.Next[0] = append(d.Next[0], 1+c%2)
			d.Next[1] = append(d.Next[1], 1)
			d.Next[2] = append(d.Next[2], 2)
		}
		return d
	}
	// The classes of the first automaton but for the last one are far below those of the second one but for its first one.
	first := func(classes int) api.DFA { return striped(append(steps(classes-1, 1), 100000)) }
	second := func(classes int) api.DFA {
		starts := []int{0}
		for i := range classes - 1 {
			starts = append(starts, 200001+i)
		}
		return striped(starts)
	}
	for _, x := range []struct {
		a, b    api.DFA
		classes int
		e       api.Errno
	}{
		{first(1001), second(1000), 2000, api.OK}, {first(1001), second(1001), 2001, api.ErrFull}, {first(1999), second(2), 2000, api.OK}, {first(1999), second(1999), 3997, api.ErrFull},
		{striped(steps(2000, 1)), striped(steps(2000, 1)), 2000, api.OK},
	} {
		d, e := dfa.Both(x.a, x.b)
		if e != x.e || e == api.OK && (len(d.Starts) != x.classes || dfa.Check(d) != api.OK) || e != api.OK && !equal(d, api.DFA{}) {
			t.Errorf("Both with %d classes: %v, %d", x.classes, e, len(d.Starts))
		}
	}
	// 3997 classes of the pairs, but the paths of the minimal automaton do not depend on them.
	none := second(1999)
	none.Accept = []bool{false, false, false}
	if d, e := dfa.Both(first(1999), none); e != api.OK || !equal(d, built(t, "!")) {
		t.Error("no path is accepted by both:", e)
	}
}

// apart fails if two of the lists share memory, including what lies behind their ends.
func apart(t *testing.T, lists ...[]int) {
	t.Helper()
	for i, l := range lists {
		l = l[:cap(l)]
		for j := range l {
			l[j] = -7 - i
		}
	}
	for i, l := range lists {
		for _, x := range l[:cap(l)] {
			if x != -7-i {
				t.Fatal("two lists share memory")
			}
		}
	}
}

// roomy returns an automaton like d, whose lists have spare elements behind their ends.
func roomy(d api.DFA) api.DFA {
	d = copied(d)
	d.Starts, d.Accept = append(d.Starts, 77, 78)[:len(d.Starts)], append(d.Accept, true, false)[:len(d.Accept)]
	for s, row := range d.Next {
		d.Next[s] = append(row, 77, 78)[:len(row)]
	}
	d.Next = append(d.Next, []int{77}, []int{78})[:len(d.Next)]
	return d
}

// whole returns an automaton like one of roomy with what lies behind the ends of its lists.
func whole(d api.DFA) api.DFA {
	w := api.DFA{Starts: slices.Clone(d.Starts[:len(d.Starts)+2]), Accept: slices.Clone(d.Accept[:len(d.Accept)+2]), Start: d.Start}
	for _, row := range d.Next {
		w.Next = append(w.Next, slices.Clone(row[:len(row)+2]))
	}
	for _, row := range d.Next[len(d.Next) : len(d.Next)+2] {
		w.Next = append(w.Next, slices.Clone(row))
	}
	return w
}

// P16.2, P16.4 to P16.7: arguments are left as they are, with what lies behind their ends, and the lists of results are
// memory of their own.
func TestMemory(t *testing.T) {
	r := rand.New(rand.NewPCG(16, 16))
	for range 2000 {
		a, b := anyAutomaton(r, 1+r.IntN(5)), anyAutomaton(r, 1+r.IntN(5))
		a, b = roomy(a), roomy(b)
		givenA, givenB := whole(a), whole(b)
		var lists [][]int
		var flags [][]bool
		minimal, _ := dfa.Minimal(a)
		both, _ := dfa.Both(a, b)
		graph, _ := dfa.Build(anyRegex(r, 1+r.IntN(9), 5))
		for _, d := range []api.DFA{minimal, both, graph, dfa.Not(a)} {
			lists = append(append(lists, d.Starts), d.Next...)
			flags = append(flags, d.Accept)
		}
		path, _ := dfa.Witness(a, b)
		dfa.Check(a)
		dfa.Match(a, path)
		dfa.Same(a, b)
		dfa.Equal(a, b)
		apart(t, append(lists, path)...)
		for _, l := range flags {
			for i := range l {
				l[i] = !l[i]
			}
		}
		if !equal(whole(a), givenA) || !equal(whole(b), givenB) {
			t.Fatal("an argument was changed")
		}
	}
}
