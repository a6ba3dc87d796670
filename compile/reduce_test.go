package compile_test

import (
	"fmt"
	"math/rand/v2"
	"slices"
	"testing"

	"routing/api"
	"routing/compile"
)

// agreeReduce fails unless Reduce returns what it promises, and returns it.
func agreeReduce(t *testing.T, a api.Automaton) api.Automaton {
	t.Helper()
	x, e := compile.Reduce(a)
	want := api.Automaton{}
	if checked(a) == api.OK {
		want = reduced(a.Tests, leaves(a))
	}
	if e != checked(a) || !equal(x, want) {
		t.Fatalf("Reduce(%+v) = %+v, %v instead of %+v, %v", a, x, e, want, checked(a))
	}
	if e != api.OK {
		return x
	}
	if again, e := compile.Reduce(x); e != api.OK || !equal(again, x) {
		t.Fatalf("Reduce(%+v) = %+v, %v", x, again, e)
	}
	return x
}

// P22.5: the rules of a reduced automaton, one by one.
func TestReduce(t *testing.T) {
	three := []api.Test{tag(1), tag(2), tag(2)}
	one, two := accept(setPref(1)), accept(setPref(2))
	for i, c := range []struct{ a, want api.Automaton }{
		{plain(), api.Automaton{Tests: plain().Tests, Branches: []api.Branch{{Test: 0, Yes: 1, No: -3}, {Test: 1, Yes: -1, No: -2}}, Leaves: plain().Leaves}},
		{api.Automaton{Leaves: []api.Leaf{{}, one}, Root: -2}, api.Automaton{Leaves: []api.Leaf{one}, Root: -1}},
		// Equal Yes and No, at once and after other ones were joined; a test without branches remains.
		{api.Automaton{Tests: three, Branches: []api.Branch{{Test: 1, Yes: -1, No: -1}}, Leaves: []api.Leaf{one}}, api.Automaton{Tests: three, Leaves: []api.Leaf{one}, Root: -1}},
		{api.Automaton{Tests: three, Branches: []api.Branch{{Test: 0, Yes: 1, No: 2}, {Test: 1, Yes: -1, No: -2}, {Test: 1, Yes: -3, No: -4}}, Leaves: []api.Leaf{one, two, one, two}}, api.Automaton{Tests: three, Branches: []api.Branch{{Test: 1, Yes: -1, No: -2}}, Leaves: []api.Leaf{one, two}}},
		// Equal branches, and such that differ in one field.
		{api.Automaton{Tests: three, Branches: []api.Branch{{Test: 0, Yes: 1, No: 2}, {Test: 2, Yes: -1, No: -2}, {Test: 1, Yes: -1, No: -2}}, Leaves: []api.Leaf{one, two}}, api.Automaton{Tests: three, Branches: []api.Branch{{Test: 0, Yes: 1, No: 2}, {Test: 2, Yes: -1, No: -2}, {Test: 1, Yes: -1, No: -2}}, Leaves: []api.Leaf{one, two}}},
		{api.Automaton{Tests: three, Branches: []api.Branch{{Test: 0, Yes: 1, No: 2}, {Test: 1, Yes: 3, No: -1}, {Test: 1, Yes: -2, No: 4}, {Test: 2, Yes: -1, No: -2}, {Test: 2, Yes: -1, No: -2}}, Leaves: []api.Leaf{one, two}}, api.Automaton{Tests: three, Branches: []api.Branch{{Test: 0, Yes: 1, No: 3}, {Test: 1, Yes: 2, No: -1}, {Test: 2, Yes: -1, No: -2}, {Test: 1, Yes: -2, No: 2}}, Leaves: []api.Leaf{one, two}}},
		// Leaves that are equal, and such that differ in one field, in the order of actions or in their number.
		{api.Automaton{Tests: three, Branches: []api.Branch{{Test: 0, Yes: -1, No: -2}}, Leaves: []api.Leaf{accept(setPref(1), setPref(2)), accept(setPref(2), setPref(1))}}, api.Automaton{Tests: three, Branches: []api.Branch{{Test: 0, Yes: -1, No: -2}}, Leaves: []api.Leaf{accept(setPref(1), setPref(2)), accept(setPref(2), setPref(1))}}},
		{api.Automaton{Tests: three, Branches: []api.Branch{{Test: 0, Yes: -1, No: -2}}, Leaves: []api.Leaf{{}, accept()}}, api.Automaton{Tests: three, Branches: []api.Branch{{Test: 0, Yes: -1, No: -2}}, Leaves: []api.Leaf{{}, accept()}}},
		{api.Automaton{Tests: three, Branches: []api.Branch{{Test: 0, Yes: -2, No: -1}}, Leaves: []api.Leaf{accept(setPref(1), setPref(1)), one}}, api.Automaton{Tests: three, Branches: []api.Branch{{Test: 0, Yes: -1, No: -2}}, Leaves: []api.Leaf{one, accept(setPref(1), setPref(1))}}},
		{api.Automaton{Tests: three, Branches: []api.Branch{{Test: 0, Yes: -1, No: -2}}, Leaves: []api.Leaf{{Actions: []api.Action{}}, {}}}, api.Automaton{Tests: three, Leaves: []api.Leaf{{}}, Root: -1}},
		// The order of a walk, and nodes that cannot be reached.
		{api.Automaton{Tests: three, Branches: []api.Branch{{Test: 2, Yes: -3, No: -2}, {Test: 1, Yes: -1, No: -2}, {Test: 0, Yes: 0, No: -4}}, Leaves: []api.Leaf{{}, one, two, accept()}, Root: 2}, api.Automaton{Tests: three, Branches: []api.Branch{{Test: 0, Yes: 1, No: -3}, {Test: 2, Yes: -1, No: -2}}, Leaves: []api.Leaf{two, one, accept()}}},
	} {
		if x := agreeReduce(t, c.a); !equal(x, c.want) {
			t.Errorf("automaton %d: %+v instead of %+v", i, x, c.want)
		}
	}
}

// P22.5: actions that differ in any field are different.
func TestReduceActions(t *testing.T) {
	actions := []api.Action{
		setPref(1), setPref(2), {Kind: api.SetMED, N: 1}, {Kind: api.SetMetric, N: 1}, {Kind: api.SetTag, N: 1}, {Kind: api.SetNextHop, Addr: 1}, {Kind: api.SetNextHop, Addr: 2},
		add(1), add(2), {Kind: api.DeleteCommunity, Community: 1}, {Kind: api.Prepend, AS: 1, N: 1}, {Kind: api.Prepend, AS: 1, N: 2}, {Kind: api.Prepend, AS: 2, N: 1},
	}
	for _, x := range actions {
		for _, y := range actions {
			a, e := compile.Reduce(api.Automaton{Tests: []api.Test{tag(1)}, Branches: []api.Branch{{Yes: -1, No: -2}}, Leaves: []api.Leaf{accept(x), accept(y)}})
			if e != api.OK || (len(a.Leaves) == 1) != (x == y) || (len(a.Branches) == 0) != (x == y) {
				t.Errorf("%+v and %+v: %+v, %v", x, y, a, e)
			}
		}
	}
}

// P22.5, P22.6, P22.9: all automata with two tests, two branches and three leaves, well formed or not.
func TestReduceSmall(t *testing.T) {
	sizes := map[int]int{}
	var branches []api.Branch
	for test := range 2 {
		for yes := -3; yes < 2; yes++ {
			for no := -3; no < 2; no++ {
				branches = append(branches, api.Branch{Test: test, Yes: yes, No: no})
			}
		}
	}
	for _, first := range branches {
		for _, second := range branches {
			a := api.Automaton{Tests: []api.Test{tag(1), tag(2)}, Branches: []api.Branch{first, second}, Leaves: []api.Leaf{accept(), {}, accept()}}
			if compile.Check(a) != checked(a) {
				t.Fatalf("Check(%+v) = %v", a, compile.Check(a))
			}
			if checked(a) != api.OK {
				continue
			}
			for a.Root = -3; a.Root < 2; a.Root++ {
				sizes[len(agreeReduce(t, a).Branches)]++
				agreeOutcome(t, a, []bool{true, false})
			}
		}
	}
	if sizes[0] < 1000 || sizes[1] < 300 || sizes[2] < 40 {
		t.Error(sizes)
	}
}

// P22.5, P22.9: any automata, well formed or not.
func TestReduceAny(t *testing.T) {
	r := rand.New(rand.NewPCG(22, 5))
	sizes := map[int]int{}
	for range 20000 {
		a := anyTree(r)
		if r.IntN(10) == 0 {
			if a = damaged(r, a); len(a.Tests) > 10 {
				continue
			}
		}
		sizes[min(len(agreeReduce(t, a).Branches), 4)]++
	}
	for n := range 5 {
		if sizes[n] < 150 {
			t.Error("only", sizes[n], "automata with", n, "branches")
		}
	}
}

// P22.5: a walk through as many tests as possible.
func TestReduceLong(t *testing.T) {
	a := api.Automaton{Tests: slices.Repeat([]api.Test{tag(1)}, 2000), Leaves: []api.Leaf{{}, accept()}, Root: 1999}
	for i := range 2000 {
		a.Branches = append(a.Branches, api.Branch{Test: 1999 - i, Yes: -2 + i%2, No: i - 1})
	}
	// The last branch leads to a leaf, and the one before to it and to another one.
	a.Branches[0].Yes = -1
	x, e := compile.Reduce(a)
	if e != api.OK || len(x.Branches) != 1998 || x.Root != 0 || len(x.Leaves) != 2 || x.Leaves[0].Accept {
		t.Fatal(len(x.Branches), x.Root, x.Leaves, e)
	}
	for i, b := range x.Branches {
		want := api.Branch{Test: i, Yes: -1 - i%2, No: i + 1}
		if i == 1997 {
			want.No = -1
		}
		if b != want {
			t.Fatalf("branch %d is %+v instead of %+v", i, b, want)
		}
	}
}

// P22.5: as many leaves as possible, with long lists of actions.
func TestReduceWide(t *testing.T) {
	var wide api.Automaton
	for i := range 12 {
		wide.Tests = append(wide.Tests, tag(i))
	}
	test := 0
	for i := range 4095 {
		if i+1 == 2<<test {
			test++
		}
		b := api.Branch{Test: test, Yes: 2*i + 1, No: 2*i + 2}
		if test == 11 {
			b.Yes, b.No = -1-(b.Yes-4095), -1-(b.No-4095)
		}
		wide.Branches = append(wide.Branches, b)
	}
	long := slices.Repeat([]api.Action{setPref(1)}, 100)
	for _, c := range []struct{ different, branches int }{{4096, 4095}, {2048, 2047}, {2, 1}, {1, 0}} {
		wide.Leaves = nil
		for i := range 4096 {
			wide.Leaves = append(wide.Leaves, accept(append(slices.Clone(long), setPref(i%c.different))...))
		}
		x, e := compile.Reduce(wide)
		if e != api.OK || len(x.Branches) != c.branches || len(x.Leaves) != c.different || compile.Check(x) != api.OK {
			t.Fatalf("%d leaves: %d, %d, %v", c.different, len(x.Branches), len(x.Leaves), e)
		}
		for i, l := range x.Leaves {
			if !equalLeaf(l, wide.Leaves[i]) {
				t.Fatalf("leaf %d of %d is %+v", i, c.different, l)
			}
		}
	}
}

// agreeOutcome fails unless Outcome returns what it promises.
func agreeOutcome(t *testing.T, a api.Automaton, results []bool) {
	t.Helper()
	want, e := api.Leaf{}, checked(a)
	if e == api.OK && len(results) != len(a.Tests) {
		e = api.ErrMismatch
	}
	if e == api.OK {
		want = leaves(a)(results)
	}
	if l, f := compile.Outcome(a, results); f != e || !equalLeaf(l, want) {
		t.Fatalf("Outcome(%+v, %v) = %+v, %v instead of %+v, %v", a, results, l, f, want, e)
	}
}

// P22.6: the outcomes for all results, and the errors.
func TestOutcome(t *testing.T) {
	a := plain()
	for _, c := range []struct {
		results []bool
		want    api.Leaf
	}{{[]bool{true, true}, accept(setPref(1))}, {[]bool{true, false}, api.Leaf{}}, {[]bool{false, true}, accept()}, {[]bool{false, false}, accept()}} {
		agreeOutcome(t, a, c.results)
		if l, e := compile.Outcome(a, c.results); e != api.OK || !equalLeaf(l, c.want) {
			t.Errorf("%v: %+v, %v", c.results, l, e)
		}
	}
	for n := range 5 {
		agreeOutcome(t, a, make([]bool, n))
		if l, e := compile.Outcome(a, make([]bool, n)); (e == api.ErrMismatch) != (n != 2) || e != api.OK && !equalLeaf(l, api.Leaf{}) {
			t.Errorf("%d results: %+v, %v", n, l, e)
		}
	}
	a.Root = 2
	if l, e := compile.Outcome(a, nil); e != api.ErrRange || l.Accept {
		t.Error("an automaton that is not well formed:", e)
	}
	one := api.Automaton{Leaves: []api.Leaf{accept(setPref(3))}, Root: -1}
	if l, e := compile.Outcome(one, nil); e != api.OK || !equalLeaf(l, one.Leaves[0]) {
		t.Error("an automaton without tests:", l, e)
	}
}

// P22.6, P22.9: any automata; those of their reduced forms are the same.
func TestOutcomeAny(t *testing.T) {
	r := rand.New(rand.NewPCG(22, 6))
	seen := map[string]int{}
	for range 10000 {
		a := anyTree(r)
		if r.IntN(10) == 0 {
			a = damaged(r, a)
		}
		results := several(r, 0, func(r *rand.Rand) bool { return false })
		for range len(a.Tests) + max(0, r.IntN(20)-18) {
			results = append(results, r.IntN(2) == 0)
		}
		agreeOutcome(t, a, results)
		l, e := compile.Outcome(a, results)
		x, _ := compile.Reduce(a)
		if m, f := compile.Outcome(x, results); e == api.OK && (f != api.OK || !equalLeaf(l, m)) {
			t.Fatalf("Outcome(%+v, %v) = %+v, %v instead of %+v", x, results, m, f, l)
		}
		seen[fmt.Sprint(e, l.Accept)]++
	}
	if seen["ok true"] < 3000 || seen["ok false"] < 1000 || seen["mismatch false"] < 100 {
		t.Error(seen)
	}
}
