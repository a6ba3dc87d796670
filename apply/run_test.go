package apply_test

import (
	"math/rand/v2"
	"slices"
	"strconv"
	"testing"

	"routing/api"
	"routing/apply"
)

// agreeRun fails unless Run and Terms return what they promise.
func agreeRun(t *testing.T, s api.PolicySet, name string, r api.Subject) api.Verdict {
	t.Helper()
	terms, want, e := run(s, name, r)
	v, f := apply.Run(s, name, r)
	if f != e || !equalVerdict(v, want) {
		t.Fatalf("Run(%+v, %q, %+v) = %+v, %v instead of %+v, %v", s, name, r, v, f, want, e)
	}
	l, f := apply.Terms(s, name, r)
	if f != e || !slices.Equal(l, terms) {
		t.Fatalf("Terms(%+v, %q, %+v) = %v, %v instead of %v, %v", s, name, r, l, f, terms, e)
	}
	return v
}

// P21.4, P21.5: the examples, and the ways to a decision.
func TestRun(t *testing.T) {
	const set = lists + `policy accepts
default accept
policy import
term first
match not prefix-list own
set pref 200
accept
default reject
policy later
term one
set tag 7
next
term two
match tag 7
reject
term three
match tag 3
set med 1
next
default accept
policy rejects
term one
set tag 7
next
term two
match protocol 6
match metric 5
set pref 1
reject
term three
set pref 2
accept
default accept
policy takes
term one
set prepend 5 1
next
term two
match protocol 7
set pref 1
accept
term three
set prepend 6 1
accept
term four
set pref 3
reject
default reject
`
	s := parsed(t, set)
	for _, c := range []struct {
		name  string
		r     api.Subject
		terms []int
		want  api.Verdict
	}{
		{"accepts", plain(), nil, api.Verdict{Accept: true, Route: plain()}},
		{"import", with(func(s *api.Subject) { s.Prefix = api.Prefix{Addr: 0xac100000, Len: 12} }), []int{0}, api.Verdict{Accept: true, Route: with(func(s *api.Subject) { s.Prefix, s.Pref = api.Prefix{Addr: 0xac100000, Len: 12}, 200 })}},
		{"import", with(func(s *api.Subject) { s.Prefix = api.Prefix{Addr: 0x0a020000, Len: 16} }), nil, api.Verdict{}},
		{"later", plain(), []int{0, 2}, api.Verdict{Accept: true, Route: with(func(s *api.Subject) { s.Tag, s.MED = 7, 1 })}},
		{"later", with(func(s *api.Subject) { s.Tag = 7 }), []int{0, 1}, api.Verdict{}},
		{"later", with(func(s *api.Subject) { s.Tag = 5 }), []int{0}, api.Verdict{Accept: true, Route: with(func(s *api.Subject) { s.Tag = 7 })}},
		{"rejects", plain(), []int{0, 1}, api.Verdict{}},
		{"rejects", with(func(s *api.Subject) { s.Metric = 6 }), []int{0, 2}, api.Verdict{Accept: true, Route: with(func(s *api.Subject) { s.Metric, s.Tag, s.Pref = 6, 7, 2 })}},
		{"rejects", with(func(s *api.Subject) { s.Protocol = 7 }), []int{0, 2}, api.Verdict{Accept: true, Route: with(func(s *api.Subject) { s.Protocol, s.Tag, s.Pref = 7, 7, 2 })}},
		{"takes", plain(), []int{0, 2}, api.Verdict{Accept: true, Route: with(func(s *api.Subject) { s.Path = []int{6, 5, 65001, 65002} })}},
		{"takes", with(func(s *api.Subject) { s.Protocol = 7 }), []int{0, 1}, api.Verdict{Accept: true, Route: with(func(s *api.Subject) { s.Protocol, s.Pref, s.Path = 7, 1, []int{5, 65001, 65002} })}},
	} {
		agreeRun(t, s, c.name, c.r)
		if v, e := apply.Run(s, c.name, c.r); e != api.OK || !equalVerdict(v, c.want) {
			t.Errorf("%s: %+v, %v instead of %+v", c.name, v, e, c.want)
		}
		if l, e := apply.Terms(s, c.name, c.r); e != api.OK || !slices.Equal(l, c.terms) {
			t.Errorf("%s: %v, %v instead of %v", c.name, l, e, c.terms)
		}
	}
}

// P21.4, P21.5: the errors of the set, of the name and of the subject, in this order.
func TestRunErrors(t *testing.T) {
	good := parsed(t, lists+"policy p\nterm t\naccept\ndefault accept\n")
	bad := good
	bad.Policies = append(slices.Clone(good.Policies), api.Policy{Name: "q"})
	broken := api.Subject{Prefix: api.Prefix{Addr: 1}}
	for _, c := range []struct {
		s    api.PolicySet
		name string
		r    api.Subject
		want api.Errno
	}{
		{good, "p", plain(), api.OK}, {bad, "p", plain(), api.ErrKind}, {bad, "r", broken, api.ErrKind}, {good, "r", broken, api.ErrNotFound}, {good, "r", plain(), api.ErrNotFound}, {good, "", plain(), api.ErrNotFound}, {good, "own", plain(), api.ErrNotFound}, {good, "P", plain(), api.ErrNotFound},
		{good, "p", broken, api.ErrInvalid}, {good, "p", api.Subject{}, api.ErrRange}, {good, "p", with(func(s *api.Subject) { s.Communities = []uint32{2, 1} }), api.ErrOrder}, {good, "p", with(func(s *api.Subject) { s.Path = make([]int, 2001) }), api.ErrTooLong},
		{api.PolicySet{}, "p", plain(), api.ErrNotFound}, {api.PolicySet{Policies: []api.Policy{{Name: "a_", Default: api.Accept}}}, "a_", plain(), api.ErrInvalid},
	} {
		agreeRun(t, c.s, c.name, c.r)
		if v, e := apply.Run(c.s, c.name, c.r); e != c.want || e != api.OK && !equalVerdict(v, api.Verdict{}) {
			t.Errorf("Run(%+v, %q, %+v) = %+v, %v instead of %v", c.s.Policies, c.name, c.r, v, e, c.want)
		}
		if l, e := apply.Terms(c.s, c.name, c.r); e != c.want || e != api.OK && len(l) > 0 {
			t.Errorf("Terms(%+v, %q, %+v) = %v, %v instead of %v", c.s.Policies, c.name, c.r, l, e, c.want)
		}
	}
}

// P21.4, P21.5, P21.7: any policies, lists and subjects, and accepted routes are valid.
func TestRunAny(t *testing.T) {
	r := rand.New(rand.NewPCG(21, 4))
	given := parsed(t, lists)
	accepted, later := 0, 0
	for range 20000 {
		s, name := anySet(r, given)
		x := anySubject(r)
		switch r.IntN(12) {
		case 0:
			s = damagedSet(r, s)
		case 1:
			x = damagedSubject(r, x)
		case 2:
			name = pick(r, "", "3", "own")
		}
		v := agreeRun(t, s, name, x)
		if !v.Accept {
			continue
		}
		accepted++
		if e := apply.Check(v.Route); e != api.OK {
			t.Fatalf("Run(%+v, %q, %+v) = %+v, which is not valid: %v", s, name, x, v.Route, e)
		}
		if l, _ := apply.Terms(s, name, x); len(l) > 1 {
			later++
		}
	}
	if accepted < 5000 || later < 1000 {
		t.Error(accepted, "routes accepted,", later, "of them after more than one term")
	}
}

// P21.7: routes at their limits.
func TestRunValid(t *testing.T) {
	s := parsed(t, "policy p\nterm t\nset add 0:1\nset add 0:2\nset prepend 4294967295 16\nset prepend 1 1\nset pref 4294967295\nset metric 16777216\naccept\ndefault reject\n")
	for _, n := range []int{0, 1983, 1984, 1985, 1999, 2000} {
		for _, m := range []int{0, 253, 254, 255} {
			x := with(func(s *api.Subject) { s.Path, s.Communities = slices.Repeat([]int{1}, n), ascending(m) })
			if v := agreeRun(t, s, "p", x); !v.Accept || apply.Check(v.Route) != api.OK {
				t.Errorf("%d numbers, %d communities: %v", n, m, apply.Check(v.Route))
			}
		}
	}
}

// P21.8: other policies, lists that are not used and terms behind the one that decides do not matter.
func TestRunLocal(t *testing.T) {
	r := rand.New(rand.NewPCG(21, 8))
	given := parsed(t, lists)
	decided := 0
	for range 10000 {
		s, name := anySet(r, given)
		x := anySubject(r)
		v, _ := apply.Run(s, name, x)
		i := slices.IndexFunc(s.Policies, func(p api.Policy) bool { return p.Name == name })
		p := s.Policies[i]
		other := withOtherRules(given, p)
		other.Policies = []api.Policy{{Name: "-", Terms: anyUnlisted(r), Default: 1 + r.IntN(2)}, p}
		if w, e := apply.Run(other, name, x); e != api.OK || !equalVerdict(v, w) {
			t.Fatalf("Run(%+v, %q, %+v) = %+v, %v and not %+v", other, name, x, w, e, v)
		}
		l, _ := apply.Terms(s, name, x)
		if len(l) == 0 || p.Terms[l[len(l)-1]].Verdict == api.NextTerm {
			continue
		}
		decided++
		last := l[len(l)-1]
		p.Terms = append(slices.Clone(p.Terms[:last+1]), anyUnlisted(r)...)
		for j := range p.Terms {
			p.Terms[j].Name = strconv.Itoa(j)
		}
		p.Default = 3 - p.Default
		other.Policies[1] = p
		w, e := apply.Run(other, name, x)
		if again, _ := apply.Terms(other, name, x); e != api.OK || !equalVerdict(v, w) || !slices.Equal(again, l) {
			t.Fatalf("Run(%+v, %q, %+v) = %+v, %v and not %+v", other, name, x, w, e, v)
		}
	}
	if decided < 3000 {
		t.Error("only", decided, "decisions by terms")
	}
}

// withOtherRules returns a set in which the lists that a policy does not use have other rules.
func withOtherRules(s api.PolicySet, p api.Policy) api.PolicySet {
	used := map[api.Match]bool{}
	for _, t := range p.Terms {
		for _, m := range t.Matches {
			used[api.Match{Kind: m.Kind, Name: m.Name}] = true
		}
	}
	s.Prefixes, s.Paths, s.Communities = slices.Clone(s.Prefixes), slices.Clone(s.Paths), slices.Clone(s.Communities)
	for i, l := range s.Prefixes {
		if !used[api.Match{Kind: api.MatchPrefixList, Name: l.Name}] {
			s.Prefixes[i].Rules = []api.PrefixRule{{Permit: len(l.Rules) == 0, Max: 32}}
		}
	}
	for i, l := range s.Paths {
		if !used[api.Match{Kind: api.MatchPathList, Name: l.Name}] {
			s.Paths[i].Rules = []api.PathRule{{Permit: len(l.Rules) == 0, Pattern: ".*"}}
		}
	}
	for i, l := range s.Communities {
		if !used[api.Match{Kind: api.MatchCommunityList, Name: l.Name}] {
			s.Communities[i].Rules = []api.CommunityRule{{Permit: len(l.Rules) == 0, High: -1, Low: -1}}
		}
	}
	return s
}

// anyUnlisted returns terms without lists.
func anyUnlisted(r *rand.Rand) []api.Term {
	terms := anyTerms(r)
	for i, t := range terms {
		terms[i].Matches = slices.DeleteFunc(t.Matches, func(m api.Match) bool { return m.Name != "" })
	}
	return terms
}

// P21.9: without actions, or with other ones, the same routes are accepted.
func TestRunActions(t *testing.T) {
	r := rand.New(rand.NewPCG(21, 9))
	given := parsed(t, lists)
	for range 10000 {
		s, name := anySet(r, given)
		x := anySubject(r)
		v, _ := apply.Run(s, name, x)
		for i := range s.Policies {
			for j := range s.Policies[i].Terms {
				s.Policies[i].Terms[j].Actions = several(r, r.IntN(4), anyAction)
			}
		}
		if w, e := apply.Run(s, name, x); e != api.OK || v.Accept != w.Accept {
			t.Fatalf("Run(%+v, %q, %+v) = %+v, %v", s, name, x, w, e)
		}
	}
}
