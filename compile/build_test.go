package compile_test

import (
	"fmt"
	"math/rand/v2"
	"slices"
	"strings"
	"testing"

	"routing/api"
	"routing/compile"
	"routing/dfa"
	"routing/policy"
	"routing/regex"
)

// P22.1: the examples, and small policies.
func TestBuild(t *testing.T) {
	own := api.Test{Kind: api.MatchPrefixList, Prefixes: []api.PrefixRule{{Permit: true, Prefix: api.Prefix{Addr: 0x0a000000, Len: 8}, Min: 8, Max: 24}}}
	prepend := api.Action{Kind: api.Prepend, AS: 5, N: 2}
	for _, c := range []struct {
		text string
		want api.Automaton
	}{
		{"prefix-list own\npermit 10.0.0.0/8 8-24\npolicy p\nterm first\nmatch not prefix-list own\nset pref 200\naccept\ndefault reject\n", api.Automaton{Tests: []api.Test{own}, Branches: []api.Branch{{Yes: -1, No: -2}}, Leaves: []api.Leaf{{}, accept(setPref(200))}}},
		{"policy p\nterm first\naccept\ndefault reject\n", api.Automaton{Leaves: []api.Leaf{accept()}, Root: -1}},
		{"policy p\ndefault reject\n", api.Automaton{Leaves: []api.Leaf{{}}, Root: -1}}, {"policy p\ndefault accept\n", api.Automaton{Leaves: []api.Leaf{accept()}, Root: -1}},
		{"policy p\nterm t\nset prepend 5 2\nset pref 1\nreject\ndefault accept\n", api.Automaton{Leaves: []api.Leaf{{}}, Root: -1}},
		// The actions of all terms that hold, in order; those of the terms before a decision to reject are discarded.
		{"policy p\nterm t\nset prepend 5 2\nset pref 1\nnext\nterm u\nset pref 2\nnext\ndefault accept\n", api.Automaton{Leaves: []api.Leaf{accept(prepend, setPref(1), setPref(2))}, Root: -1}},
		{"policy p\nterm t\nset prepend 5 2\nnext\nterm u\nset pref 2\nnext\ndefault reject\n", api.Automaton{Leaves: []api.Leaf{{}}, Root: -1}},
		{"policy p\nterm t\nmatch tag 1\nset pref 1\nnext\nterm u\nmatch tag 2\nset pref 2\naccept\ndefault accept\n", api.Automaton{
			Tests: []api.Test{tag(1), tag(2)}, Branches: []api.Branch{{Test: 0, Yes: 1, No: 2}, {Test: 1, Yes: -1, No: -2}, {Test: 1, Yes: -3, No: -4}},
			Leaves: []api.Leaf{accept(setPref(1), setPref(2)), accept(setPref(1)), accept(setPref(2)), accept()},
		}},
		// A later term sees the old tag, though an earlier one sets it: the tests do not change.
		{"policy p\nterm t\nset tag 1\nnext\nterm u\nmatch tag 1\nreject\ndefault accept\n", api.Automaton{Tests: []api.Test{tag(1)}, Branches: []api.Branch{{Yes: -1, No: -2}}, Leaves: []api.Leaf{{}, accept(api.Action{Kind: api.SetTag, N: 1})}}},
		// The order of the tests is that of the first occurrence, also in a term that never holds; a test of which nothing
		// depends remains.
		{"policy p\nterm t\nmatch tag 2\nmatch not tag 1\nmatch not tag 2\naccept\nterm u\nmatch tag 1\nmatch tag 3\nmatch tag 2\naccept\ndefault reject\n", api.Automaton{
			Tests: []api.Test{tag(2), tag(1), tag(3)}, Branches: []api.Branch{{Test: 0, Yes: 1, No: -2}, {Test: 1, Yes: 2, No: -2}, {Test: 2, Yes: -1, No: -2}}, Leaves: []api.Leaf{accept(), {}},
		}},
		{"policy p\nterm t\nmatch tag 1\nmatch tag 1\nreject\nterm u\nmatch not tag 1\nmatch not tag 2\nreject\ndefault reject\n", api.Automaton{Tests: []api.Test{tag(1), tag(2)}, Leaves: []api.Leaf{{}}, Root: -1}},
		// Equal actions of different terms.
		{"policy p\nterm t\nmatch tag 1\nset pref 1\nset pref 2\naccept\nterm u\nmatch tag 2\nset pref 1\nnext\nterm v\nset pref 2\naccept\ndefault reject\n", api.Automaton{
			Tests: []api.Test{tag(1), tag(2)}, Branches: []api.Branch{{Test: 0, Yes: -1, No: 1}, {Test: 1, Yes: -1, No: -2}}, Leaves: []api.Leaf{accept(setPref(1), setPref(2)), accept(setPref(2))},
		}},
	} {
		s := parsed(t, c.text)
		a, e := compile.Build(s, "p")
		if e != api.OK || !equal(a, c.want) {
			t.Errorf("%q: %+v, %v instead of %+v", c.text, a, e, c.want)
		}
		if want := compiled(s, s.Policies[0]); !equal(c.want, want) {
			t.Errorf("%q should be compiled to %+v", c.text, want)
		}
	}
}

// P22.1: the tests of all kinds of matches, and which of them are equal.
func TestBuildTests(t *testing.T) {
	text := lists + "policy p\nterm t\nmatch prefix-list own\nmatch not prefix-list again\nmatch prefix-list other\nmatch prefix-list none\nmatch path-list from\nmatch not path-list again\nmatch path-list none\nmatch path-list all\n" +
		"match community-list again\nmatch community-list blue\nmatch community-list none\nmatch protocol 3\nmatch tag 3\nmatch metric 3\nmatch path-length 3\nmatch next-hop 10.0.0.0/8\naccept\n" +
		"term u\nmatch not tag 3\nmatch next-hop 10.0.0.0/9\nmatch metric 3\nmatch prefix-list again\nmatch tag 4\naccept\ndefault reject\n"
	s := parsed(t, text)
	from, e := dfa.Build(regexOf(t, "65001 .*"))
	none, f := dfa.Build(regexOf(t, "!"))
	every, g := dfa.Build(regexOf(t, ".*"))
	if e != api.OK || f != api.OK || g != api.OK {
		t.Fatal(e, f, g)
	}
	ten := api.Prefix{Addr: 0x0a000000, Len: 8}
	want := []api.Test{
		{Kind: api.MatchPrefixList, Prefixes: s.Prefixes[3].Rules}, {Kind: api.MatchPrefixList, Prefixes: s.Prefixes[2].Rules}, {Kind: api.MatchPrefixList}, {Kind: api.MatchPathList, Path: from}, {Kind: api.MatchPathList, Path: none}, {Kind: api.MatchPathList, Path: every},
		{Kind: api.MatchCommunityList, Communities: s.Communities[0].Rules}, {Kind: api.MatchCommunityList},
		{Kind: api.MatchProtocol, N: 3}, tag(3), {Kind: api.MatchMetric, N: 3}, {Kind: api.MatchPathLength, N: 3}, {Kind: api.MatchNextHop, Prefix: ten}, {Kind: api.MatchNextHop, Prefix: api.Prefix{Addr: ten.Addr, Len: 9}}, tag(4),
	}
	a, e := compile.Build(s, "p")
	if e != api.OK || !equal(api.Automaton{Tests: a.Tests}, api.Automaton{Tests: want}) {
		t.Errorf("%+v, %v", a.Tests, e)
	}
}

func regexOf(t *testing.T, pattern string) api.Regex {
	t.Helper()
	r, e := regex.Parse(pattern)
	if e != api.OK {
		t.Fatal(pattern, e)
	}
	return r
}

// pathsOf returns all paths with at most so many of some numbers.
func pathsOf(most int, numbers ...int) [][]int {
	l := [][]int{nil}
	for at := 0; at < len(l); at++ {
		if len(l[at]) < most {
			for _, as := range numbers {
				l = append(l, append(slices.Clone(l[at]), as))
			}
		}
	}
	return l
}

// permitted is the definition of layer 21: the first rule whose pattern matches decides.
func permitted(rules []api.PathRule, path []int) bool {
	for _, r := range rules {
		if pattern, _ := regex.Parse(r.Pattern); regex.Match(pattern, path) {
			return r.Permit
		}
	}
	return false
}

// W4: the automaton of a path list accepts the paths that the list permits, and is minimal.
func TestBuildPaths(t *testing.T) {
	r := rand.New(rand.NewPCG(22, 4))
	paths := pathsOf(4, 1, 2, 3, 4)
	sizes := map[int]int{}
	for range 1500 {
		l := api.PathList{Name: "l", Rules: several(r, 5, func(r *rand.Rand) api.PathRule {
			return api.PathRule{Permit: r.IntN(3) > 0, Pattern: pick(r, "()", "!", ".", ".*", "1", "1 .*", ".* 2", "[2-3]+", "(1|2 3)*", ". .", "1? . 3?", "[0-1] .+", ".* 3 .*", "(. .)*", "4294967295", "1 2")}
		})}
		s := api.PolicySet{Paths: []api.PathList{l}, Policies: []api.Policy{{Name: "p", Terms: []api.Term{{Name: "t", Matches: []api.Match{{Kind: api.MatchPathList, Name: "l"}}, Verdict: api.Accept}}, Default: api.Reject}}}
		a, e := compile.Build(s, "p")
		if e != api.OK || len(a.Tests) != 1 {
			t.Fatalf("%+v: %v", l, e)
		}
		d := a.Tests[0].Path
		if least, e := dfa.Minimal(d); e != api.OK || !dfa.Equal(least, d) {
			t.Fatalf("%+v: %+v is not minimal", l, d)
		}
		for _, path := range paths {
			if dfa.Match(d, path) != permitted(l.Rules, path) {
				t.Fatalf("%+v: %v for %v", l, dfa.Match(d, path), path)
			}
		}
		sizes[min(len(d.Next), 6)]++
	}
	for n := 1; n <= 6; n++ {
		if sizes[n] < 30 {
			t.Error("only", sizes[n], "automata with", n, "states")
		}
	}
}

// P22.1, P22.9: any policies with few tests.
func TestBuildAny(t *testing.T) {
	r := rand.New(rand.NewPCG(22, 1))
	given := parsed(t, lists)
	sizes := map[int]int{}
	for range 20000 {
		s := given
		p := anyPolicy(r, "p")
		s.Policies = []api.Policy{p, anyPolicy(r, "q")}
		a, e := compile.Build(s, "p")
		if want := compiled(s, p); e != api.OK || !equal(a, want) {
			t.Fatalf("%+v: %+v, %v instead of %+v", p, a, e, want)
		}
		if again, f := compile.Reduce(a); f != api.OK || !equal(again, a) || compile.Check(a) != api.OK {
			t.Fatalf("%+v: %+v is not reduced: %+v, %v", p, a, again, f)
		}
		sizes[min(len(a.Branches), 7)]++
	}
	for n := range 8 {
		if sizes[n] < 100 {
			t.Error("only", sizes[n], "automata with", n, "branches")
		}
	}
}

// P22.1: the errors of the set and of the name.
func TestBuildErrors(t *testing.T) {
	good := parsed(t, lists+"policy p\nterm t\nmatch path-list from\naccept\ndefault accept\n")
	bad := good
	bad.Policies = append(slices.Clone(good.Policies), api.Policy{Name: "q", Default: 3})
	pattern := good
	pattern.Paths = append(slices.Clone(good.Paths), api.PathList{Name: "z", Rules: []api.PathRule{{Pattern: "(1)"}}})
	for _, c := range []struct {
		s    api.PolicySet
		name string
		want api.Errno
	}{
		{good, "p", api.OK}, {good, "q", api.ErrNotFound}, {good, "", api.ErrNotFound}, {good, "from", api.ErrNotFound}, {bad, "p", api.ErrKind}, {bad, "q", api.ErrKind}, {bad, "r", api.ErrKind}, {pattern, "p", api.ErrSyntax}, {pattern, "q", api.ErrSyntax}, {api.PolicySet{}, "p", api.ErrNotFound},
		{api.PolicySet{Policies: make([]api.Policy, 65)}, "", api.ErrTooLong}, {api.PolicySet{Policies: []api.Policy{{Name: "p", Terms: []api.Term{{Name: "t", Matches: []api.Match{{Kind: api.MatchPathList, Name: "l"}}, Verdict: api.Accept}}, Default: api.Accept}}}, "p", api.ErrNotFound},
	} {
		a, e := compile.Build(c.s, c.name)
		if e != c.want || e != api.OK && !equal(a, api.Automaton{}) {
			t.Errorf("%+v, %q: %+v, %v instead of %v", c.s.Policies, c.name, a, e, c.want)
		}
	}
}

// term returns a term.
func term(verdict int, matches []api.Match, actions ...api.Action) api.Term {
	return api.Term{Matches: matches, Actions: actions, Verdict: verdict}
}

// tags are matches for tags.
func tags(l ...int) []api.Match {
	return mapped(l, func(n int) api.Match { return api.Match{Kind: api.MatchTag, N: n} })
}

// add is an action that adds a community.
func add(n int) api.Action { return api.Action{Kind: api.AddCommunity, Community: uint32(n)} }

// of returns a set with a policy p of some terms, which get names.
func of(verdict int, terms ...api.Term) api.PolicySet {
	terms = slices.Clone(terms)
	for i := range terms {
		terms[i].Name = fmt.Sprint(i)
	}
	return api.PolicySet{Policies: []api.Policy{{Name: "p", Terms: terms, Default: verdict}}}
}

// choices returns n terms, each of which adds a community or not, with the tags from 1 on.
func choices(n int) []api.Term {
	var l []api.Term
	for i := range n {
		l = append(l, term(api.NextTerm, tags(i+1), add(i)))
	}
	return l
}

// pairs returns terms whose automaton needs to know, for all of n tags together, which of them were found: the order of
// the tests is determined by a first term that changes nothing, and a pair of tests decides in each other term.
func pairs(n int) []api.Term {
	l := []api.Term{term(api.NextTerm, nil)}
	for i := range n {
		l[0].Matches = append(l[0].Matches, tags(i+1)...)
		l = append(l, term(api.Accept, append(tags(i+1), api.Match{Kind: api.MatchPathLength, N: i})))
	}
	return l
}

// acting returns terms with so many actions in all, which hold for every route.
func acting(n int) []api.Term {
	var l []api.Term
	for part := range slices.Chunk(slices.Repeat([]api.Action{setPref(1)}, n), maxList) {
		l = append(l, term(api.NextTerm, nil, part...))
	}
	return l
}

// P22.1: the numbers of branches and leaves, and the actions of a leaf, of the whole policy.
func TestBuildFull(t *testing.T) {
	reject, yes := term(api.Reject, tags(100)), func(n int) api.Term { return term(api.Accept, tags(n)) }
	more := func(l []api.Term, before ...api.Term) []api.Term { return append(before, l...) }
	for i, c := range []struct {
		s                api.PolicySet
		branches, leaves int
	}{
		{of(api.Accept, choices(12)...), 4095, 4096}, {of(api.Accept, choices(13)...), 0, 0}, {of(api.Reject, choices(13)...), 0, 1}, {of(api.Reject, append(choices(12), term(api.Accept, tags(5)))...), 15 + 16*128, 2049},
		{of(api.Accept, more(choices(12), reject)...), 0, 0}, {of(api.Accept, more(choices(11), reject)...), 2048, 2049},
		{of(api.Accept, more(choices(12), yes(100))...), 4096, 4096}, {of(api.Accept, more(choices(12), yes(100), yes(101))...), 0, 0}, {of(api.Accept, more(choices(12), yes(1))...), 2048, 2048},
		{of(api.Reject, pairs(11)...), 4094, 2}, {of(api.Reject, pairs(12)...), 0, 0}, {of(api.Reject, more(pairs(11), yes(100))...), 4095, 2}, {of(api.Reject, more(pairs(11), yes(100), yes(101))...), 4096, 2}, {of(api.Reject, more(pairs(11), yes(100), yes(101), yes(102))...), 0, 0},
		{of(api.Reject, pairs(11)[1:]...), 22, 2}, {of(api.Reject, pairs(31)[1:]...), 62, 2},
		{of(api.Accept, acting(2000)...), 0, 1}, {of(api.Accept, acting(2001)...), 0, 0}, {of(api.Accept, acting(4096)...), 0, 0}, {of(api.Reject, acting(4096)...), 0, 1},
		{of(api.Reject, append(acting(2001), reject)...), 0, 1}, {of(api.Accept, append(acting(2000), term(api.Accept, nil, setPref(2)))...), 0, 0}, {of(api.Accept, append(acting(1999), term(api.Accept, nil, setPref(2)))...), 0, 1},
		{of(api.Accept, append(acting(2000), term(api.NextTerm, tags(1), setPref(2)))...), 0, 0}, {of(api.Accept, append(acting(1999), term(api.NextTerm, tags(1), setPref(2)))...), 1, 2},
		{of(api.Accept, append(acting(2000), term(api.NextTerm, append(tags(1), api.Match{Kind: api.MatchTag, N: 1, Not: true}), setPref(2)))...), 0, 1}, {of(api.Accept, append(acting(2000), term(api.Reject, tags(1), setPref(2)))...), 1, 2},
	} {
		a, e := compile.Build(c.s, "p")
		want := api.OK
		if c.leaves == 0 {
			want = api.ErrFull
		}
		if e != want || len(a.Branches) != c.branches || len(a.Leaves) != c.leaves || e != api.OK && !equal(a, api.Automaton{}) {
			t.Errorf("policy %d: %d branches, %d leaves, %v", i, len(a.Branches), len(a.Leaves), e)
		}
		if e == api.OK && compile.Check(a) != api.OK {
			t.Errorf("policy %d: %v", i, compile.Check(a))
		}
	}
}

// P22.1: the terms from the second one on, or from a later one on, count as well, though they do not matter.
func TestBuildFullBehind(t *testing.T) {
	every := term(api.Accept, nil)
	for i, c := range []struct {
		behind []api.Term
		want   api.Errno
	}{
		{choices(12), api.OK}, {choices(13), api.ErrFull}, {pairs(11), api.OK}, {pairs(12), api.ErrFull}, {acting(2000), api.OK}, {acting(2001), api.ErrFull},
	} {
		verdict := api.Accept
		if i == 2 || i == 3 {
			verdict = api.Reject
		}
		for _, before := range [][]api.Term{{every}, {term(api.Reject, nil)}, {term(api.NextTerm, nil, setPref(1)), every}, {term(api.NextTerm, tags(100)), every, every}} {
			s := of(verdict, append(before, c.behind...)...)
			a, e := compile.Build(s, "p")
			if e != c.want || e == api.OK && len(a.Branches) > 0 || e != api.OK && !equal(a, api.Automaton{}) {
				t.Errorf("policy %d behind %d terms: %v", i, len(before), e)
			}
		}
	}
}

// P22.1: the number of tests; its error comes before that of the numbers of branches and leaves.
func TestBuildTooLong(t *testing.T) {
	many := func(n int) []api.Term {
		var l []api.Term
		for part := range slices.Chunk(tags(steps(n)...), 50) {
			l = append(l, term(api.Accept, part))
		}
		return l
	}
	a, e := compile.Build(of(api.Reject, many(2000)...), "p")
	if e != api.OK || len(a.Tests) != 2000 || len(a.Branches) != 2000 || len(a.Leaves) != 2 || compile.Check(a) != api.OK {
		t.Error(len(a.Tests), len(a.Branches), len(a.Leaves), e)
	}
	if again, e := compile.Reduce(a); e != api.OK || !compile.Same(a, again) {
		t.Error("not reduced:", e)
	}
	full := append(choices(13), many(1950)...)
	for n, s := range map[string]api.PolicySet{"one more test": of(api.Reject, many(2001)...), "branches as well": of(api.Accept, append(choices(13), many(2001)...)...)} {
		if a, e := compile.Build(s, "p"); e != api.ErrTooLong || !equal(a, api.Automaton{}) {
			t.Errorf("%s: %v", n, e)
		}
	}
	if _, e := compile.Build(of(api.Accept, full...), "p"); e != api.ErrFull {
		t.Error("as many tests as possible:", e)
	}
	// Matches that occur again, and equal ones, are one test.
	same := append(many(2000), term(api.Reject, append(tags(1, 2000), api.Match{Kind: api.MatchTag, N: 7, Not: true})))
	if a, e := compile.Build(of(api.Reject, same...), "p"); e != api.OK || len(a.Tests) != 2000 {
		t.Error(len(a.Tests), e)
	}
}

// steps returns the numbers from 1 to n.
func steps(n int) []int {
	var l []int
	for i := range n {
		l = append(l, i+1)
	}
	return l
}

// cycle is a pattern for the paths whose length is a multiple of n.
func cycle(n int) string { return "(." + strings.Repeat(" .", n-1) + ")*" }

// numbers is a list of rules that permit paths of one of n numbers, no two of which follow each other; the first one is
// from.
func numbers(from, n int) []api.PathRule {
	var l []api.PathRule
	for i := 0; i < n; i += 60 {
		s := ""
		for j := i; j < min(n, i+60); j++ {
			s += fmt.Sprint("|", from+2*j)
		}
		l = append(l, api.PathRule{Permit: true, Pattern: s[1:]})
	}
	return l
}

// P22.1: steps of the automaton of a path list that are too large.
func TestBuildFullPaths(t *testing.T) {
	dots := func(n int) string { return ".* 1" + strings.Repeat(" .", n) }
	rules := func(permit bool, patterns ...string) []api.PathRule {
		return mapped(patterns, func(s string) api.PathRule { return api.PathRule{Permit: permit, Pattern: s} })
	}
	for i, c := range []struct {
		rules []api.PathRule
		want  api.Errno
	}{
		{rules(true, dots(10)), api.OK}, {rules(true, dots(13)), api.ErrFull}, {rules(false, dots(13)), api.ErrFull}, {rules(true, ".*", dots(13)), api.ErrFull}, {rules(true, dots(13), ".*"), api.ErrFull},
		{rules(true, cycle(61), cycle(59)), api.OK}, {rules(true, cycle(2), cycle(61), cycle(59)), api.ErrFull}, {rules(true, cycle(61), cycle(59), cycle(2)), api.ErrFull}, {rules(false, cycle(2), cycle(61), cycle(59)), api.OK},
		// The rules are taken from the last one to the first one.
		{rules(true, ".*", cycle(2), cycle(61), cycle(59)), api.ErrFull}, {rules(true, cycle(2), cycle(61), cycle(59), ".*"), api.OK}, {rules(false, ".*", cycle(2)), api.OK},
		{append(rules(false, cycle(2)), rules(true, cycle(61), cycle(59))...), api.ErrFull}, {append(rules(false, ".*"), rules(true, cycle(2), cycle(61), cycle(59))...), api.ErrFull},
		// The numbers of classes, 0 and two for each other number.
		{numbers(1, 999), api.OK}, {numbers(0, 1000), api.OK}, {numbers(1, 1000), api.ErrFull}, {append(rules(true, ".*"), numbers(1, 1000)...), api.ErrFull}, {append(numbers(1, 1000), rules(true, ".*")...), api.OK},
		{nil, api.OK},
	} {
		l := api.PathList{Name: "l", Rules: c.rules}
		if _, e := pathTest(l.Rules); e != c.want {
			t.Errorf("list %d should be %v", i, e)
		}
		named := api.Match{Kind: api.MatchPathList, Name: "l"}
		for _, m := range []api.Match{named, {Kind: named.Kind, Name: "l", Not: true}} {
			s := of(api.Reject, term(api.Accept, nil), term(api.Accept, append(tags(1), m)))
			s.Paths = []api.PathList{l}
			a, e := compile.Build(s, "p")
			if e != c.want || e == api.OK && (len(a.Tests) != 2 || dfa.Check(a.Tests[1].Path) != api.OK) || e != api.OK && !equal(a, api.Automaton{}) {
				t.Errorf("list %d: %v instead of %v", i, e, c.want)
			}
			// The list does not matter for a policy without it.
			s.Policies = append([]api.Policy{{Name: "o", Default: api.Accept}}, s.Policies...)
			if a, e := compile.Build(s, "o"); e != api.OK || len(a.Tests) != 0 {
				t.Errorf("list %d and another policy: %v", i, e)
			}
		}
	}
}

// P22.1: the error of a path list comes before that of the number of tests, though other matches come before it.
func TestBuildFullFirst(t *testing.T) {
	var l []api.Term
	for part := range slices.Chunk(tags(steps(2050)...), 50) {
		l = append(l, term(api.Accept, part))
	}
	s := of(api.Reject, append(l, term(api.Accept, []api.Match{{Kind: api.MatchPathList, Name: "l"}}))...)
	s.Paths = []api.PathList{{Name: "l", Rules: []api.PathRule{{Pattern: "."}}}}
	if _, e := compile.Build(s, "p"); e != api.ErrTooLong {
		t.Error(e)
	}
	s.Paths[0].Rules = numbers(1, 1000)
	if e := policy.Check(s); e != api.OK {
		t.Fatal(e)
	}
	if _, e := compile.Build(s, "p"); e != api.ErrFull {
		t.Error(e)
	}
}
