package compile_test

import (
	"math/rand/v2"
	"reflect"
	"slices"
	"testing"

	"routing/api"
	"routing/compile"
)

func whole[T any](l []T) []T { return slices.Clone(l[:cap(l)]) }

// roomy returns a list like l with spare elements behind its end.
func roomy[T any](l []T, spare T) []T { return append(slices.Clone(l), spare, spare)[:len(l)] }

// roomyTree returns an automaton like a, whose lists have spare elements behind their ends.
func roomyTree(a api.Automaton) api.Automaton {
	a.Tests, a.Branches, a.Leaves = roomy(a.Tests, tag(77)), roomy(a.Branches, api.Branch{Test: 77}), roomy(a.Leaves, accept())
	for i, x := range a.Tests {
		a.Tests[i].Prefixes, a.Tests[i].Communities = roomy(x.Prefixes, api.PrefixRule{Max: 7}), roomy(x.Communities, api.CommunityRule{Low: 7})
		a.Tests[i].Path = api.DFA{Starts: roomy(x.Path.Starts, 77), Next: roomy(x.Path.Next, []int{7}), Accept: roomy(x.Path.Accept, true), Start: x.Path.Start}
		for j, row := range a.Tests[i].Path.Next {
			a.Tests[i].Path.Next[j] = roomy(row, 77)
		}
	}
	for i, l := range a.Leaves {
		a.Leaves[i].Actions = roomy(l.Actions, setPref(77))
	}
	return a
}

// wholeTree returns a copy of an automaton with what lies behind the ends of its lists.
func wholeTree(a api.Automaton) api.Automaton {
	a.Tests, a.Branches, a.Leaves = whole(a.Tests), whole(a.Branches), whole(a.Leaves)
	for i, x := range a.Tests {
		a.Tests[i].Prefixes, a.Tests[i].Communities = whole(x.Prefixes), whole(x.Communities)
		a.Tests[i].Path = api.DFA{Starts: whole(x.Path.Starts), Next: whole(x.Path.Next), Accept: whole(x.Path.Accept), Start: x.Path.Start}
		for j, row := range a.Tests[i].Path.Next {
			a.Tests[i].Path.Next[j] = whole(row)
		}
	}
	for i, l := range a.Leaves {
		a.Leaves[i].Actions = whole(l.Actions)
	}
	return a
}

// parts are functions that write to the memory of one list each, of all lists of an automaton.
func parts(a api.Automaton) []func() {
	writes := []func(){write(a.Tests, api.Test{Kind: -7}), write(a.Branches, api.Branch{Test: -7}), write(a.Leaves, api.Leaf{Accept: true, Actions: []api.Action{{}}})}
	for _, x := range a.Tests {
		writes = append(writes, write(x.Prefixes, api.PrefixRule{Max: -7}), write(x.Communities, api.CommunityRule{Low: -7}), write(x.Path.Starts, -7), write(x.Path.Accept, true), write(x.Path.Next, []int{-7}))
		for _, row := range x.Path.Next {
			writes = append(writes, write(row, -7))
		}
	}
	for _, l := range a.Leaves {
		writes = append(writes, write(l.Actions, api.Action{N: -7}))
	}
	return writes
}

func write[T any](l []T, x T) func() {
	return func() {
		for i := range l[:cap(l)] {
			l[:cap(l)][i] = x
		}
	}
}

// agreeApart fails if an automaton, which a function returns, shares memory among its lists, or with what unchanged
// looks at.
func agreeApart(t *testing.T, result func() api.Automaton, unchanged func() bool) {
	t.Helper()
	want := copied(result())
	for i := range parts(want) {
		a := result()
		if !equal(a, want) {
			t.Fatalf("another result: %+v and %+v", a, want)
		}
		b := copied(a)
		parts(a)[i]()
		parts(b)[i]()
		if !reflect.DeepEqual(copied(a), copied(b)) || !unchanged() {
			t.Fatalf("list %d of %+v shares memory", i, want)
		}
	}
}

// R5: no function changes its arguments, and the results share no memory with them.
func TestMemory(t *testing.T) {
	r := rand.New(rand.NewPCG(22, 55))
	for range 500 {
		given := roomyTree(anyTree(r))
		before := wholeTree(given)
		unchanged := func() bool { return reflect.DeepEqual(wholeTree(given), before) }
		s := anySubject(r)
		s.Path, s.Communities = roomy(s.Path, 77), roomy(s.Communities, 77)
		path, communities := whole(s.Path), whole(s.Communities)
		compile.Check(given)
		compile.Same(given, given)
		for _, x := range given.Tests {
			compile.Holds(x, s)
		}
		results := make([]bool, len(given.Tests))
		l, _ := compile.Outcome(given, results)
		write(l.Actions, api.Action{N: -7})()
		v, _, _ := compile.Eval(given, s)
		write(v.Route.Path, -7)()
		write(v.Route.Communities, 7)()
		if !unchanged() || !slices.Equal(whole(s.Path), path) || !slices.Equal(whole(s.Communities), communities) {
			t.Fatalf("an argument was changed: %+v", before)
		}
		agreeApart(t, func() api.Automaton { a, _ := compile.Reduce(given); return a }, unchanged)
	}
}

// R5 for Build.
func TestBuildMemory(t *testing.T) {
	r := rand.New(rand.NewPCG(22, 56))
	given := parsed(t, lists)
	for i := range given.Prefixes {
		given.Prefixes[i].Rules = roomy(given.Prefixes[i].Rules, api.PrefixRule{Max: 7})
	}
	for i := range given.Communities {
		given.Communities[i].Rules = roomy(given.Communities[i].Rules, api.CommunityRule{Low: 7})
	}
	for range 200 {
		s := given
		s.Policies = []api.Policy{anyPolicy(r, "p")}
		for i, x := range s.Policies[0].Terms {
			s.Policies[0].Terms[i].Matches, s.Policies[0].Terms[i].Actions = roomy(x.Matches, api.Match{N: 77}), roomy(x.Actions, setPref(77))
		}
		all := func() []any {
			var l []any
			for _, x := range s.Prefixes {
				l = append(l, whole(x.Rules))
			}
			for _, x := range s.Communities {
				l = append(l, whole(x.Rules))
			}
			for _, x := range s.Policies[0].Terms {
				l = append(l, whole(x.Matches), whole(x.Actions))
			}
			return l
		}
		before := all()
		agreeApart(t, func() api.Automaton { a, _ := compile.Build(s, "p"); return a }, func() bool { return reflect.DeepEqual(all(), before) })
	}
}
