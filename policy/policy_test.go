package policy_test

import (
	"math"
	"math/rand/v2"
	"reflect"
	"slices"
	"testing"

	"routing/api"
	"routing/policy"
)

// P20.4
func TestFind(t *testing.T) {
	first := api.Policy{Name: "b", Terms: []api.Term{{Name: "x", Matches: []api.Match{{Kind: 99}}, Actions: []api.Action{{N: -1}}, Verdict: 7}}, Default: 9}
	second := api.Policy{Name: "b", Default: api.Accept}
	none := api.Policy{Terms: []api.Term{{}, {}}}
	for _, c := range []struct {
		s    api.PolicySet
		name string
		want api.Policy
		ok   bool
	}{
		{exampleSet(), "import", exampleSet().Policies[0], true}, {exampleSet(), "Import", api.Policy{}, false}, {exampleSet(), "impor", api.Policy{}, false}, {exampleSet(), "", api.Policy{}, false}, {exampleSet(), "own", api.Policy{}, false}, {exampleSet(), "first", api.Policy{}, false},
		{api.PolicySet{}, "", api.Policy{}, false}, {api.PolicySet{}, "a", api.Policy{}, false},
		// Sets that are not valid.
		{ofPolicies(first, second), "b", first, true}, {ofPolicies(second, first), "b", second, true}, {ofPolicies(acceptAll("c"), first, none, acceptAll("a")), "a", acceptAll("a"), true}, {ofPolicies(acceptAll("c"), first, none), "", none, true}, {ofPolicies(acceptAll("c"), first), "a", api.Policy{}, false},
		{ofPolicies(acceptAll("a b\n")), "a b\n", acceptAll("a b\n"), true}, {ofPolicies(append(make([]api.Policy, 1000), first)...), "b", first, true},
	} {
		if p, ok := policy.Find(c.s, c.name); ok != c.ok || !equalPolicy(p, c.want) {
			t.Errorf("Find %q: %+v, %v", c.name, p, ok)
		}
	}
}

// P20.4
func TestFindAny(t *testing.T) {
	r := rand.New(rand.NewPCG(20, 4))
	hits := 0
	for range 5000 {
		s := damaged(r, anySet(r))
		name := anyName(r)
		if n := len(s.Policies); n > 0 && r.IntN(2) == 0 {
			name = s.Policies[r.IntN(n)].Name
		}
		p, ok := policy.Find(s, name)
		i := slices.IndexFunc(s.Policies, func(p api.Policy) bool { return p.Name == name })
		var want api.Policy
		if i >= 0 {
			want = s.Policies[i]
			hits++
		}
		if ok != (i >= 0) || !equalPolicy(p, want) {
			t.Fatalf("Find(%+v, %q) = %+v, %v", s, name, p, ok)
		}
	}
	if hits < 1000 {
		t.Error("only", hits, "policies found")
	}
}

// P20.5: one field differs.
func TestSame(t *testing.T) {
	base := exampleSet()
	base.Paths = []api.PathList{{Name: "p", Rules: []api.PathRule{{Permit: true, Pattern: "."}}}}
	changes := []func(s *api.PolicySet){
		func(s *api.PolicySet) { s.Prefixes = nil },
		func(s *api.PolicySet) { s.Prefixes = append(s.Prefixes, api.PrefixList{}) },
		func(s *api.PolicySet) { s.Prefixes[0].Name = "Own" },
		func(s *api.PolicySet) { s.Prefixes[0].Rules = nil },
		func(s *api.PolicySet) { s.Prefixes[0].Rules = append(s.Prefixes[0].Rules, api.PrefixRule{}) },
		func(s *api.PolicySet) { s.Prefixes[0].Rules[0].Permit = false },
		func(s *api.PolicySet) { s.Prefixes[0].Rules[0].Prefix.Addr++ },
		func(s *api.PolicySet) { s.Prefixes[0].Rules[0].Prefix.Len++ },
		func(s *api.PolicySet) { s.Prefixes[0].Rules[0].Min++ },
		func(s *api.PolicySet) { s.Prefixes[0].Rules[0].Max++ },
		func(s *api.PolicySet) { s.Paths = nil },
		func(s *api.PolicySet) { s.Paths[0].Name = "" },
		func(s *api.PolicySet) { s.Paths[0].Rules = nil },
		func(s *api.PolicySet) { s.Paths[0].Rules[0].Permit = false },
		func(s *api.PolicySet) { s.Paths[0].Rules[0].Pattern = "" },
		func(s *api.PolicySet) { s.Communities = nil },
		func(s *api.PolicySet) { s.Communities[0].Name += "-" },
		func(s *api.PolicySet) { s.Communities[0].Rules = nil },
		func(s *api.PolicySet) { s.Communities[0].Rules[0].Permit = false },
		func(s *api.PolicySet) { s.Communities[0].Rules[0].High++ },
		func(s *api.PolicySet) { s.Communities[0].Rules[0].Low-- },
		func(s *api.PolicySet) { s.Policies = nil },
		func(s *api.PolicySet) { s.Policies = append(s.Policies, api.Policy{}) },
		func(s *api.PolicySet) { s.Policies[0].Name = "" },
		func(s *api.PolicySet) { s.Policies[0].Default = 1 },
		func(s *api.PolicySet) { s.Policies[0].Terms = nil },
		func(s *api.PolicySet) { s.Policies[0].Terms = append(s.Policies[0].Terms, api.Term{}) },
		func(s *api.PolicySet) { s.Policies[0].Terms[0].Name = "" },
		func(s *api.PolicySet) { s.Policies[0].Terms[0].Verdict = math.MinInt },
		func(s *api.PolicySet) { s.Policies[0].Terms[0].Matches = nil },
		func(s *api.PolicySet) { s.Policies[0].Terms[0].Matches[0].Kind = 2 },
		func(s *api.PolicySet) { s.Policies[0].Terms[0].Matches[0].Name = "" },
		func(s *api.PolicySet) { s.Policies[0].Terms[0].Matches[0].N = 1 },
		func(s *api.PolicySet) { s.Policies[0].Terms[0].Matches[0].Prefix.Addr = 1 },
		func(s *api.PolicySet) { s.Policies[0].Terms[0].Matches[0].Prefix.Len = -1 },
		func(s *api.PolicySet) { s.Policies[0].Terms[0].Matches[0].Not = false },
		func(s *api.PolicySet) { s.Policies[0].Terms[0].Actions = nil },
		func(s *api.PolicySet) { s.Policies[0].Terms[0].Actions[0].Kind = 2 },
		func(s *api.PolicySet) { s.Policies[0].Terms[0].Actions[0].N = 1<<32 + 200 },
		func(s *api.PolicySet) { s.Policies[0].Terms[0].Actions[0].AS = 1 },
		func(s *api.PolicySet) { s.Policies[0].Terms[0].Actions[0].Community = 1 },
		func(s *api.PolicySet) { s.Policies[0].Terms[0].Actions[0].Addr = 1 },
	}
	sets := []api.PolicySet{base}
	for _, change := range changes {
		s := copied(base)
		change(&s)
		sets = append(sets, s)
	}
	for i, a := range sets {
		for j, b := range sets {
			if same := policy.Same(a, copied(b)); same != (i == j) {
				t.Errorf("Same of the sets %d and %d: %v", i, j, same)
			}
		}
	}
}

// P20.5: empty lists, and the order of elements.
func TestSameLists(t *testing.T) {
	empty := api.PolicySet{Prefixes: []api.PrefixList{}, Paths: []api.PathList{}, Communities: []api.CommunityList{}, Policies: []api.Policy{}}
	if !policy.Same(empty, api.PolicySet{}) || !policy.Same(api.PolicySet{}, empty) {
		t.Error("empty sets")
	}
	lists := api.PolicySet{
		Prefixes: []api.PrefixList{{Rules: []api.PrefixRule{}}}, Paths: []api.PathList{{Rules: []api.PathRule{}}}, Communities: []api.CommunityList{{Rules: []api.CommunityRule{}}},
		Policies: []api.Policy{{Terms: []api.Term{}}, {Terms: []api.Term{{Matches: []api.Match{}, Actions: []api.Action{}}}}},
	}
	if !policy.Same(lists, copied(lists)) || !policy.Same(copied(lists), lists) {
		t.Error("empty lists")
	}
	for what, a := range named("a", "b") {
		if policy.Same(a, named("b", "a")[what]) || policy.Same(a, named("a")[what]) || policy.Same(a, named("a", "b", "c")[what]) || !policy.Same(a, named("a", "b")[what]) {
			t.Error(what)
		}
	}
	two := []api.Match{{Kind: 1}, {Kind: 2}}
	if policy.Same(withMatches(two...), withMatches(two[1], two[0])) || policy.Same(withActions(api.Action{N: 1}, api.Action{}), withActions(api.Action{}, api.Action{N: 1})) {
		t.Error("the order of matches and actions")
	}
}

// P20.5
func TestSameAny(t *testing.T) {
	r := rand.New(rand.NewPCG(20, 5))
	differ := 0
	for range 5000 {
		a := anySet(r)
		if r.IntN(2) == 0 {
			a = damaged(r, a)
		}
		b := damaged(r, a)
		if policy.Same(a, b) != equal(a, b) || policy.Same(b, a) != equal(a, b) || !policy.Same(a, copied(a)) {
			t.Fatalf("Same(%+v, %+v) = %v", a, b, policy.Same(a, b))
		}
		if !equal(a, b) {
			differ++
		}
	}
	if differ < 1000 {
		t.Error("only", differ, "pairs differ")
	}
}

// roomy returns a set like s whose lists have spare elements behind their ends, and a function that reports whether
// neither the set nor these elements were changed.
func roomy(s api.PolicySet) (api.PolicySet, func() bool) {
	s = copied(s)
	full := copied(s)
	full.Prefixes = append(full.Prefixes, prefixList("spare"))
	full.Paths = append(full.Paths, pathList("spare"))
	full.Communities = append(full.Communities, communityList("spare"))
	for i := range full.Prefixes {
		l := &full.Prefixes[i].Rules
		*l = append(*l, api.PrefixRule{Min: 77})[:len(*l)]
	}
	for i := range full.Paths {
		l := &full.Paths[i].Rules
		*l = append(*l, api.PathRule{Pattern: "spare"})[:len(*l)]
	}
	for i := range full.Communities {
		l := &full.Communities[i].Rules
		*l = append(*l, api.CommunityRule{Low: 77})[:len(*l)]
	}
	for i := range full.Policies {
		p := &full.Policies[i]
		p.Terms = append(p.Terms, api.Term{Name: "spare"})
		for j := range p.Terms {
			t := &p.Terms[j]
			t.Matches = append(t.Matches, api.Match{N: 77})[:len(t.Matches)]
			t.Actions = append(t.Actions, api.Action{N: 77})[:len(t.Actions)]
		}
		p.Terms = p.Terms[:len(p.Terms)-1]
	}
	given := api.PolicySet{Prefixes: full.Prefixes[:len(s.Prefixes)], Paths: full.Paths[:len(s.Paths)], Communities: full.Communities[:len(s.Communities)], Policies: full.Policies}
	before := whole(given)
	return given, func() bool { return reflect.DeepEqual(whole(given), before) }
}

// whole returns a copy of a set with all that lies behind the ends of its lists.
func whole(s api.PolicySet) api.PolicySet {
	s.Prefixes, s.Paths, s.Communities, s.Policies = all(s.Prefixes), all(s.Paths), all(s.Communities), all(s.Policies)
	for i, l := range s.Prefixes {
		s.Prefixes[i].Rules = all(l.Rules)
	}
	for i, l := range s.Paths {
		s.Paths[i].Rules = all(l.Rules)
	}
	for i, l := range s.Communities {
		s.Communities[i].Rules = all(l.Rules)
	}
	for i, p := range s.Policies {
		s.Policies[i].Terms = all(p.Terms)
		for j, t := range s.Policies[i].Terms {
			s.Policies[i].Terms[j].Matches, s.Policies[i].Terms[j].Actions = all(t.Matches), all(t.Actions)
		}
	}
	return s
}

func all[T any](l []T) []T { return slices.Clone(l[:cap(l)]) }

// overwrite writes to all memory of the lists of a policy.
func overwrite(p api.Policy) {
	for _, t := range p.Terms[:cap(p.Terms)] {
		fill(t.Matches, api.Match{N: -7})
		fill(t.Actions, api.Action{N: -7})
	}
	fill(p.Terms, api.Term{Name: "overwritten"})
}

func fill[T any](l []T, x T) {
	for i := range l[:cap(l)] {
		l[:cap(l)][i] = x
	}
}

// R5: no function changes its arguments, and the results share no memory with them.
func TestMemory(t *testing.T) {
	r := rand.New(rand.NewPCG(20, 7))
	for range 3000 {
		s := anySet(r)
		if r.IntN(3) == 0 {
			s = damaged(r, s)
		}
		a, unchanged := roomy(s)
		policy.Check(a)
		policy.Print(a)
		policy.Same(a, a)
		if !unchanged() {
			t.Fatalf("the argument was changed: %+v", a)
		}
		for _, p := range s.Policies {
			found, _ := policy.Find(a, p.Name)
			other, _ := policy.Find(a, p.Name)
			overwrite(found)
			if !unchanged() || !equalPolicy(other, *firstOf(s, p.Name)) {
				t.Fatalf("Find(%+v, %q) shares memory", s, p.Name)
			}
		}
	}
}

func firstOf(s api.PolicySet, name string) *api.Policy {
	return &s.Policies[slices.IndexFunc(s.Policies, func(p api.Policy) bool { return p.Name == name })]
}

// R5: no two lists of a parsed set share memory.
func TestParseMemory(t *testing.T) {
	r := rand.New(rand.NewPCG(20, 8))
	for range 1000 {
		s := anySet(r)
		text := printed(s)
		for i, p := range s.Policies {
			parsed, _, _ := policy.Parse(text)
			overwrite(parsed.Policies[i])
			parsed.Policies[i].Terms = p.Terms
			if !equal(parsed, s) {
				t.Fatalf("the lists of policy %d of %q share memory with others", i, text)
			}
			for j, term := range p.Terms {
				parsed, _, _ := policy.Parse(text)
				own := &parsed.Policies[i].Terms[j]
				fill(own.Matches, api.Match{N: -7})
				if !slices.Equal(own.Actions, term.Actions) {
					t.Fatalf("matches and actions of %q share memory", text)
				}
				own.Matches = term.Matches
				fill(own.Actions, api.Action{N: -7})
				own.Actions = term.Actions
				if !equal(parsed, s) {
					t.Fatalf("the lists of term %d of %q share memory with others", j, text)
				}
			}
		}
		back, _, _ := policy.Parse(text)
		for i, l := range back.Prefixes {
			fill(l.Rules, api.PrefixRule{Min: -7})
			back.Prefixes[i].Rules = s.Prefixes[i].Rules
			if !equal(back, s) {
				t.Fatalf("the rules of prefix list %d of %q share memory with others", i, text)
			}
		}
		for i, l := range back.Paths {
			fill(l.Rules, api.PathRule{Pattern: "overwritten"})
			back.Paths[i].Rules = s.Paths[i].Rules
			if !equal(back, s) {
				t.Fatalf("the rules of path list %d of %q share memory with others", i, text)
			}
		}
		for i, l := range back.Communities {
			fill(l.Rules, api.CommunityRule{Low: -7})
			back.Communities[i].Rules = s.Communities[i].Rules
			if !equal(back, s) {
				t.Fatalf("the rules of community list %d of %q share memory with others", i, text)
			}
		}
	}
}
