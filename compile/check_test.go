package compile_test

import (
	"fmt"
	"math"
	"math/rand/v2"
	"slices"
	"testing"

	"routing/api"
	"routing/compile"
)

func agreeCheck(t *testing.T, what string, a api.Automaton, want api.Errno) {
	t.Helper()
	if e := compile.Check(a); e != want || checked(a) != want {
		t.Errorf("%s: %v instead of %v (%v)", what, e, want, checked(a))
	}
}

// tag is the test whether the tag is n.
func tag(n int) api.Test { return api.Test{Kind: api.MatchTag, N: n} }

// accept is a leaf that accepts with some actions.
func accept(l ...api.Action) api.Leaf { return api.Leaf{Accept: true, Actions: l} }

// setPref is an action.
func setPref(n int) api.Action { return api.Action{Kind: api.SetPref, N: n} }

// plain is a well-formed automaton with two branches and three leaves, which is reduced.
func plain() api.Automaton {
	return api.Automaton{
		Tests:    []api.Test{tag(1), {Kind: api.MatchMetric, N: 5}},
		Branches: []api.Branch{{Test: 0, Yes: 1, No: -3}, {Test: 1, Yes: -1, No: -2}},
		Leaves:   []api.Leaf{accept(setPref(1)), {}, accept()},
	}
}

// with returns this automaton after some changes.
func with(changes ...func(a *api.Automaton)) api.Automaton {
	a := plain()
	for _, change := range changes {
		change(&a)
	}
	return a
}

// withTest returns this automaton with another test.
func withTest(x api.Test) api.Automaton { return with(func(a *api.Automaton) { a.Tests[1] = x }) }

// all is an automaton over AS paths that accepts all paths.
func all() api.DFA { return api.DFA{Starts: []int{0}, Next: [][]int{{0}}, Accept: []bool{true}} }

// validTests are valid tests of all kinds.
func validTests() []api.Test {
	rule, part := api.PrefixRule{Max: 32}, api.CommunityRule{High: -1, Low: 65535}
	return []api.Test{
		{Kind: api.MatchPrefixList}, {Kind: api.MatchPrefixList, Prefixes: []api.PrefixRule{}}, {Kind: api.MatchPrefixList, Prefixes: []api.PrefixRule{rule, rule}}, {Kind: api.MatchPrefixList, Prefixes: slices.Repeat([]api.PrefixRule{rule}, 64)},
		{Kind: api.MatchPathList, Path: all()}, {Kind: api.MatchPathList, Path: api.DFA{Starts: []int{0, maxNumber}, Next: [][]int{{1, 1}, {0, 1}}, Accept: []bool{false, true}, Start: 1}},
		{Kind: api.MatchCommunityList}, {Kind: api.MatchCommunityList, Communities: []api.CommunityRule{}}, {Kind: api.MatchCommunityList, Communities: []api.CommunityRule{part, {High: 65535, Low: -1}, {}}}, {Kind: api.MatchCommunityList, Communities: slices.Repeat([]api.CommunityRule{part}, 64)},
		{Kind: api.MatchProtocol, N: 1}, {Kind: api.MatchProtocol, N: 7}, tag(0), tag(maxNumber), {Kind: api.MatchMetric}, {Kind: api.MatchMetric, N: maxCost}, {Kind: api.MatchPathLength}, {Kind: api.MatchPathLength, N: maxEntries},
		{Kind: api.MatchNextHop}, {Kind: api.MatchNextHop, Prefix: api.Prefix{Addr: math.MaxUint32, Len: 32}},
		{Kind: api.MatchNextHop, Prefixes: []api.PrefixRule{}, Communities: []api.CommunityRule{}, Path: api.DFA{Starts: []int{}, Next: [][]int{}, Accept: []bool{}}},
	}
}

// brokenTests are tests that are not valid, with their errors.
func brokenTests() []struct {
	x    api.Test
	want api.Errno
} {
	rule := api.PrefixRule{Max: 32}
	l := []struct {
		x    api.Test
		want api.Errno
	}{
		{api.Test{Kind: api.MatchPrefixList, Prefixes: slices.Repeat([]api.PrefixRule{rule}, 65)}, api.ErrTooLong}, {api.Test{Kind: api.MatchPrefixList, Prefixes: make([]api.PrefixRule, 65, 70)}, api.ErrTooLong}, {api.Test{Kind: api.MatchPrefixList, Prefixes: slices.Repeat([]api.PrefixRule{{Min: 1}}, 65)}, api.ErrTooLong},
		{api.Test{Kind: api.MatchPrefixList, Prefixes: []api.PrefixRule{rule, {Prefix: api.Prefix{Addr: 1}, Max: 33}}}, api.ErrInvalid}, {api.Test{Kind: api.MatchPrefixList, Prefixes: []api.PrefixRule{rule, {Max: 33}, {Prefix: api.Prefix{Addr: 1}}}}, api.ErrRange}, {api.Test{Kind: api.MatchPrefixList, Prefixes: []api.PrefixRule{{Min: 1}}}, api.ErrRange},
		{api.Test{Kind: api.MatchPathList}, api.ErrOrder}, {api.Test{Kind: api.MatchPathList, Path: api.DFA{Starts: []int{0}}}, api.ErrMismatch}, {api.Test{Kind: api.MatchPathList, Path: api.DFA{Starts: []int{0}, Next: [][]int{{1}}, Accept: []bool{true}}}, api.ErrRange}, {api.Test{Kind: api.MatchPathList, Path: api.DFA{Starts: make([]int, 2001)}}, api.ErrTooLong},
		{api.Test{Kind: api.MatchCommunityList, Communities: make([]api.CommunityRule, 65)}, api.ErrTooLong}, {api.Test{Kind: api.MatchCommunityList, Communities: slices.Repeat([]api.CommunityRule{{High: -2}}, 65)}, api.ErrTooLong},
		{api.Test{Kind: api.MatchCommunityList, Communities: []api.CommunityRule{{High: -2}}}, api.ErrRange}, {api.Test{Kind: api.MatchCommunityList, Communities: []api.CommunityRule{{}, {Low: -2}}}, api.ErrRange}, {api.Test{Kind: api.MatchCommunityList, Communities: []api.CommunityRule{{High: 65536}}}, api.ErrRange}, {api.Test{Kind: api.MatchCommunityList, Communities: []api.CommunityRule{{Low: 65536}}}, api.ErrRange},
		{api.Test{Kind: api.MatchProtocol}, api.ErrRange}, {api.Test{Kind: api.MatchProtocol, N: 8}, api.ErrRange}, {tag(-1), api.ErrRange}, {tag(maxNumber + 1), api.ErrRange}, {api.Test{Kind: api.MatchMetric, N: -1}, api.ErrRange}, {api.Test{Kind: api.MatchMetric, N: maxCost + 1}, api.ErrRange}, {api.Test{Kind: api.MatchPathLength, N: -1}, api.ErrRange}, {api.Test{Kind: api.MatchPathLength, N: maxEntries + 1}, api.ErrRange},
		{api.Test{Kind: api.MatchNextHop, Prefix: api.Prefix{Addr: 1}}, api.ErrInvalid}, {api.Test{Kind: api.MatchNextHop, Prefix: api.Prefix{Len: 33}}, api.ErrInvalid}, {api.Test{Kind: api.MatchNextHop, Prefix: api.Prefix{Len: -1}}, api.ErrInvalid},
	}
	for _, kind := range []int{math.MinInt, -1, 0, 9, 1<<32 + 1, math.MaxInt} {
		l = append(l, struct {
			x    api.Test
			want api.Errno
		}{api.Test{Kind: kind, N: -1, Prefixes: make([]api.PrefixRule, 65)}, api.ErrKind})
	}
	return l
}

// P22.2, P22.3: the tests.
func TestCheckTests(t *testing.T) {
	for i, x := range validTests() {
		agreeCheck(t, fmt.Sprint("valid test ", i), withTest(x), api.OK)
	}
	for i, c := range brokenTests() {
		agreeCheck(t, fmt.Sprint("broken test ", i), withTest(c.x), c.want)
		if compile.Holds(c.x, api.Subject{Protocol: 1}) {
			t.Errorf("%+v holds", c.x)
		}
	}
}

// P22.2: a field that a test does not use is not zero, which comes before the errors of the one that it uses.
func TestCheckUnused(t *testing.T) {
	fields := map[string]func(x *api.Test){
		"N":        func(x *api.Test) { x.N = 1 },
		"a low N":  func(x *api.Test) { x.N = -1 },
		"Addr":     func(x *api.Test) { x.Prefix.Addr = 1 << 31 },
		"Len":      func(x *api.Test) { x.Prefix.Len = 1 },
		"Prefixes": func(x *api.Test) { x.Prefixes = []api.PrefixRule{{}} },
		"Communities": func(x *api.Test) {
			x.Communities = []api.CommunityRule{{}}
		},
		"Path":   func(x *api.Test) { x.Path = all() },
		"Starts": func(x *api.Test) { x.Path.Starts = []int{0} },
		"Next":   func(x *api.Test) { x.Path.Next = [][]int{nil} },
		"Accept": func(x *api.Test) { x.Path.Accept = []bool{false} },
		"Start":  func(x *api.Test) { x.Path.Start = 1 },
	}
	uses := map[int][]string{
		1: {"Prefixes"}, 2: {"Path", "Starts", "Next", "Accept", "Start"}, 3: {"Communities"}, 4: {"N", "a low N"}, 5: {"N", "a low N"}, 6: {"N", "a low N"}, 7: {"Addr", "Len"}, 8: {"N", "a low N"},
	}
	for kind := 1; kind <= 8; kind++ {
		x := api.Test{Kind: kind, N: map[int]int{4: 1}[kind]}
		if kind == api.MatchPathList {
			x.Path = all()
		}
		agreeCheck(t, fmt.Sprint("kind ", kind), withTest(x), api.OK)
		for name, set := range fields {
			if slices.Contains(uses[kind], name) {
				continue
			}
			y := copiedTest(x)
			set(&y)
			agreeCheck(t, fmt.Sprint(name, " of kind ", kind), withTest(y), api.ErrInvalid)
			if compile.Holds(y, api.Subject{Protocol: 1}) {
				t.Errorf("%+v holds", y)
			}
		}
	}
	long := slices.Repeat([]api.PrefixRule{{}}, 65)
	for _, x := range []api.Test{{Kind: api.MatchPrefixList, Prefixes: long, N: 1}, {Kind: api.MatchCommunityList, Communities: make([]api.CommunityRule, 65), Path: all()}, {Kind: api.MatchPathList, N: 1}, {Kind: api.MatchTag, N: -1, Prefixes: long}, {Kind: api.MatchProtocol, Prefix: api.Prefix{Len: 40}}, {Kind: api.MatchNextHop, Prefix: api.Prefix{Len: 33}, N: 1}, {Kind: api.MatchPrefixList, Prefixes: []api.PrefixRule{{Max: 33}}, Prefix: api.Prefix{Len: 1}}} {
		agreeCheck(t, fmt.Sprintf("%+v", x), withTest(x), api.ErrInvalid)
	}
}

// P22.2: the nodes.
func TestCheckNodes(t *testing.T) {
	agreeCheck(t, "plain", plain(), api.OK)
	agreeCheck(t, "nothing", api.Automaton{}, api.ErrRange)
	agreeCheck(t, "one leaf", api.Automaton{Leaves: []api.Leaf{{}}, Root: -1}, api.OK)
	agreeCheck(t, "unreached leaves", api.Automaton{Leaves: []api.Leaf{{}, {}, accept()}, Root: -3}, api.OK)
	for _, n := range []int{math.MinInt, -1 << 32, -5, -4, 2, 3, 1 << 32, math.MaxInt} {
		agreeCheck(t, fmt.Sprint("Root ", n), with(func(a *api.Automaton) { a.Root = n }), api.ErrRange)
		agreeCheck(t, fmt.Sprint("Yes ", n), with(func(a *api.Automaton) { a.Branches[0].Yes = n }), api.ErrRange)
		agreeCheck(t, fmt.Sprint("No ", n), with(func(a *api.Automaton) { a.Branches[1].No = n }), api.ErrRange)
		if n != -5 && n != -4 {
			agreeCheck(t, fmt.Sprint("Test ", n), with(func(a *api.Automaton) { a.Branches[1].Test = n }), map[bool]api.Errno{true: api.ErrOrder, false: api.ErrRange}[n < 0])
		}
	}
	for _, n := range []int{-3, -2, -1, 0, 1} {
		agreeCheck(t, fmt.Sprint("Root ", n), with(func(a *api.Automaton) { a.Root = n }), api.OK)
	}
	for _, n := range []int{-3, -2, -1} {
		agreeCheck(t, fmt.Sprint("a leaf ", n), with(func(a *api.Automaton) { a.Branches[0].Yes, a.Branches[1].No = n, n }), api.OK)
	}
	agreeCheck(t, "a Test that is no index", with(func(a *api.Automaton) { a.Branches[0].Test = -1 }), api.ErrRange)
	agreeCheck(t, "a Test behind all", with(func(a *api.Automaton) { a.Branches[0].Test = 2 }), api.ErrRange)
	agreeCheck(t, "no tests", with(func(a *api.Automaton) { a.Tests = nil }), api.ErrRange)
	agreeCheck(t, "no leaves", with(func(a *api.Automaton) { a.Leaves = nil }), api.ErrRange)
	// Order, by Yes and by No; a branch that cannot be reached counts as well.
	agreeCheck(t, "Yes to itself", with(func(a *api.Automaton) { a.Branches[1].Yes = 1 }), api.ErrOrder)
	agreeCheck(t, "No to itself", with(func(a *api.Automaton) { a.Branches[1].No = 1 }), api.ErrOrder)
	agreeCheck(t, "No to an earlier test", with(func(a *api.Automaton) { a.Branches[1].No = 0 }), api.ErrOrder)
	agreeCheck(t, "Yes to the same test", with(func(a *api.Automaton) { a.Branches[1].Test = 0 }), api.ErrOrder)
	agreeCheck(t, "an unreached branch", with(func(a *api.Automaton) { a.Root, a.Branches[1].Yes = -1, 0 }), api.ErrOrder)
	agreeCheck(t, "tests in the order of branches", api.Automaton{Tests: []api.Test{tag(1), tag(2)}, Branches: []api.Branch{{Test: 1, Yes: -1, No: -1}, {Test: 0, Yes: 0, No: 0}}, Leaves: []api.Leaf{{}}, Root: 1}, api.OK)
}

// P22.2: the leaves.
func TestCheckLeaves(t *testing.T) {
	leaf := func(l api.Leaf) api.Automaton { return with(func(a *api.Automaton) { a.Leaves[2] = l }) }
	long := slices.Repeat([]api.Action{setPref(1)}, 3000)
	for _, l := range []api.Leaf{{}, {Actions: []api.Action{}}, accept(), accept(setPref(maxNumber)), accept(long[:64]...), accept(long[:65]...), accept(long...)} {
		agreeCheck(t, "a leaf", leaf(l), api.OK)
	}
	for _, x := range []api.Action{{}, {Kind: 9}, {Kind: -1}, setPref(-1), setPref(maxNumber + 1), {Kind: api.SetPref, AS: 1}, {Kind: api.SetNextHop}, {Kind: api.Prepend, AS: 1}, {Kind: api.Prepend, N: 1}, {Kind: api.SetMetric, N: maxCost + 1}} {
		agreeCheck(t, fmt.Sprintf("%+v", x), leaf(accept(x)), api.ErrInvalid)
		for _, at := range []int{1, 63, 64, 65, 128, 2999} {
			agreeCheck(t, fmt.Sprintf("%+v at %d", x, at), leaf(accept(append(slices.Clone(long[:at]), x)...)), api.ErrInvalid)
		}
		agreeCheck(t, "an unreached leaf", api.Automaton{Leaves: []api.Leaf{{}, accept(x)}, Root: -1}, api.ErrInvalid)
	}
	agreeCheck(t, "a leaf that rejects", leaf(api.Leaf{Actions: []api.Action{setPref(1)}}), api.ErrInvalid)
	agreeCheck(t, "a leaf that rejects", leaf(api.Leaf{Actions: []api.Action{{}}}), api.ErrInvalid)
}

// P22.2: the numbers of elements.
func TestCheckLimits(t *testing.T) {
	large := func(tests, branches, leaves int) api.Automaton {
		return api.Automaton{Tests: slices.Repeat([]api.Test{tag(1)}, tests), Branches: slices.Repeat([]api.Branch{{Yes: -1, No: -1}}, branches), Leaves: slices.Repeat([]api.Leaf{{}}, leaves), Root: -1}
	}
	agreeCheck(t, "the limits", large(2000, 4096, 4096), api.OK)
	agreeCheck(t, "too many tests", large(2001, 1, 1), api.ErrTooLong)
	agreeCheck(t, "too many branches", large(1, 4097, 1), api.ErrTooLong)
	agreeCheck(t, "too many leaves", large(1, 1, 4097), api.ErrTooLong)
	agreeCheck(t, "the last one of many leaves", with(func(a *api.Automaton) { a.Leaves, a.Root = make([]api.Leaf, 4096), -4096 }), api.OK)
	agreeCheck(t, "none of many leaves", with(func(a *api.Automaton) { a.Leaves, a.Root = make([]api.Leaf, 4096), -4097 }), api.ErrRange)
}

// P22.2: of two errors, the one named first.
func TestCheckOrder(t *testing.T) {
	faults := []struct {
		e      api.Errno
		damage func(a *api.Automaton)
	}{
		{api.ErrTooLong, func(a *api.Automaton) { a.Leaves = append(a.Leaves, make([]api.Leaf, 4096)...) }},
		{api.ErrKind, func(a *api.Automaton) { a.Tests[0].Kind = 0 }},
		{api.ErrInvalid, func(a *api.Automaton) { a.Tests[0].Prefix.Len = 1 }},
		{api.ErrRange, func(a *api.Automaton) { a.Tests[0].N = -1 }},
		{api.ErrKind, func(a *api.Automaton) { a.Tests[1].Kind = 9 }},
		{api.ErrInvalid, func(a *api.Automaton) { a.Tests[1].Prefixes = make([]api.PrefixRule, 65) }},
		{api.ErrRange, func(a *api.Automaton) { a.Root = -9 }},
		{api.ErrRange, func(a *api.Automaton) { a.Branches[0].Test = -1 }},
		{api.ErrRange, func(a *api.Automaton) { a.Branches[0].No = -9 }},
		{api.ErrOrder, func(a *api.Automaton) { a.Branches[1].Test = 0 }},
		{api.ErrRange, func(a *api.Automaton) { a.Branches[1].Yes = 2 }},
		{api.ErrOrder, func(a *api.Automaton) { a.Branches[1].No = 1 }},
		{api.ErrInvalid, func(a *api.Automaton) { a.Leaves[1].Actions = []api.Action{setPref(1)} }},
	}
	for i, first := range faults {
		for _, second := range faults[i:] {
			agreeCheck(t, fmt.Sprint("two errors from ", i), with(second.damage, first.damage), first.e)
		}
	}
}

// P22.2
func TestCheckAny(t *testing.T) {
	r := rand.New(rand.NewPCG(22, 2))
	errors := map[api.Errno]int{}
	for range 20000 {
		a := anyTree(r)
		if checked(a) != api.OK {
			t.Fatalf("%+v is not well formed: %v", a, checked(a))
		}
		if r.IntN(4) > 0 {
			a = damaged(r, a)
		}
		if e := compile.Check(a); e != checked(a) {
			t.Fatalf("Check(%+v) = %v instead of %v", a, e, checked(a))
		}
		errors[checked(a)]++
	}
	for e, least := range map[api.Errno]int{api.OK: 5000, api.ErrTooLong: 500, api.ErrKind: 200, api.ErrInvalid: 1000, api.ErrRange: 1000, api.ErrOrder: 100, api.ErrMismatch: 10} {
		if errors[e] < least {
			t.Error("only", errors[e], "automata with", e)
		}
	}
}

// P22.7: one field differs.
func TestSame(t *testing.T) {
	whole := with(func(a *api.Automaton) {
		a.Tests = append(a.Tests, api.Test{Kind: api.MatchPrefixList, Prefixes: []api.PrefixRule{{}}}, api.Test{Kind: api.MatchPathList, Path: all()}, api.Test{Kind: api.MatchCommunityList, Communities: []api.CommunityRule{{}}})
	})
	automata := []api.Automaton{whole, {}}
	for _, change := range []func(a *api.Automaton){
		func(a *api.Automaton) { a.Tests = nil }, func(a *api.Automaton) { a.Tests = a.Tests[:4] }, func(a *api.Automaton) { a.Tests[0].Kind = 6 }, func(a *api.Automaton) { a.Tests[0].N = 1<<32 + 1 }, func(a *api.Automaton) { a.Tests[0].Prefix.Addr = 1 }, func(a *api.Automaton) { a.Tests[0].Prefix.Len = -1 },
		func(a *api.Automaton) { a.Tests[2].Prefixes = nil }, func(a *api.Automaton) { a.Tests[2].Prefixes[0].Permit = true }, func(a *api.Automaton) { a.Tests[2].Prefixes[0].Prefix.Addr = 1 }, func(a *api.Automaton) { a.Tests[2].Prefixes[0].Min = 1 }, func(a *api.Automaton) { a.Tests[2].Prefixes[0].Max = -1 },
		func(a *api.Automaton) { a.Tests[3].Path.Start = 1 }, func(a *api.Automaton) { a.Tests[3].Path.Starts = nil }, func(a *api.Automaton) { a.Tests[3].Path.Next[0][0] = 1 }, func(a *api.Automaton) { a.Tests[3].Path.Next = nil }, func(a *api.Automaton) { a.Tests[3].Path.Accept[0] = false }, func(a *api.Automaton) { a.Tests[3].Path.Accept = nil },
		func(a *api.Automaton) { a.Tests[4].Communities[0].Permit = true }, func(a *api.Automaton) { a.Tests[4].Communities[0].High = -1 }, func(a *api.Automaton) { a.Tests[4].Communities[0].Low = 65536 }, func(a *api.Automaton) { a.Tests[4].Communities = nil },
		func(a *api.Automaton) { a.Branches = nil }, func(a *api.Automaton) { a.Branches[0].Test = 1 }, func(a *api.Automaton) { a.Branches[1].Yes = math.MinInt }, func(a *api.Automaton) { a.Branches[1].No-- }, func(a *api.Automaton) { a.Branches = append(a.Branches, api.Branch{}) }, func(a *api.Automaton) { slices.Reverse(a.Branches) },
		func(a *api.Automaton) { a.Leaves = nil }, func(a *api.Automaton) { a.Leaves[0].Accept = false }, func(a *api.Automaton) { a.Leaves[0].Actions = nil }, func(a *api.Automaton) { a.Leaves[0].Actions[0].Kind = 2 }, func(a *api.Automaton) { a.Leaves[0].Actions[0].N++ }, func(a *api.Automaton) { a.Leaves[0].Actions[0].AS++ }, func(a *api.Automaton) { a.Leaves[0].Actions[0].Community++ }, func(a *api.Automaton) { a.Leaves[0].Actions[0].Addr++ },
		func(a *api.Automaton) { a.Leaves[0].Actions = append(a.Leaves[0].Actions, api.Action{}) }, func(a *api.Automaton) { slices.Reverse(a.Leaves) }, func(a *api.Automaton) { a.Leaves[1].Accept = true }, func(a *api.Automaton) { a.Root = -1 }, func(a *api.Automaton) { a.Root = math.MaxInt },
	} {
		a := copied(whole)
		change(&a)
		automata = append(automata, a)
	}
	for i, a := range automata {
		for j, b := range automata {
			if same := compile.Same(a, copied(b)); same != (i == j) || equal(a, b) != same {
				t.Errorf("Same of the automata %d and %d: %v", i, j, same)
			}
		}
	}
	empty := api.Automaton{Tests: []api.Test{{Prefixes: []api.PrefixRule{}, Path: api.DFA{Starts: []int{}, Next: [][]int{{}}, Accept: []bool{}}, Communities: []api.CommunityRule{}}}, Branches: []api.Branch{}, Leaves: []api.Leaf{{Actions: []api.Action{}}}}
	if !compile.Same(empty, copied(empty)) || !compile.Same(copied(empty), empty) || !compile.Same(api.Automaton{Tests: []api.Test{}, Leaves: []api.Leaf{}}, api.Automaton{}) {
		t.Error("empty lists")
	}
}

// P22.7
func TestSameAny(t *testing.T) {
	r := rand.New(rand.NewPCG(22, 7))
	same := 0
	for range 1500 {
		a := anyTree(r)
		b := damaged(r, a)
		if r.IntN(3) == 0 {
			a, b = b, copied(b)
		}
		if compile.Same(a, b) != equal(a, b) || compile.Same(b, a) != equal(a, b) {
			t.Fatalf("Same(%+v, %+v) = %v", a, b, compile.Same(a, b))
		}
		if equal(a, b) {
			same++
		}
	}
	if same < 300 || same > 1200 {
		t.Error(same, "pairs are the same")
	}
}
