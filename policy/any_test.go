package policy_test

import (
	"fmt"
	"math"
	"math/rand/v2"
	"slices"
	"strings"

	"routing/api"
)

func pick[T any](r *rand.Rand, l ...T) T { return l[r.IntN(len(l))] }

func anyPrefix(r *rand.Rand) api.Prefix {
	n := r.IntN(33)
	return api.Prefix{Addr: api.Addr(uint64(r.Uint32()) >> (32 - n) << (32 - n)), Len: n}
}

func anyName(r *rand.Rand) string {
	if r.IntN(2) == 0 {
		return pick(r, "a", "b", "c", "policy", "term", "not", "default", "-", "0", "permit")
	}
	var b strings.Builder
	for range pick(r, 1, 2, 3, 8, 31, 32) {
		b.WriteByte("abyzABYZ0189-"[r.IntN(13)])
	}
	return b.String()
}

// anyNames returns at most so many strictly ascending names.
func anyNames(r *rand.Rand, most int) []string {
	var l []string
	for range r.IntN(most + 1) {
		l = append(l, anyName(r))
	}
	slices.Sort(l)
	return slices.Compact(l)
}

func anyNumber(r *rand.Rand, low, high int) int {
	return pick(r, low, low+1, high-1, high, low+r.IntN(high-low+1))
}

func anyPrefixRule(r *rand.Rand) api.PrefixRule {
	p := anyPrefix(r)
	low := p.Len + r.IntN(33-p.Len)
	return api.PrefixRule{Permit: r.IntN(2) == 0, Prefix: p, Min: low, Max: low + r.IntN(33-low)}
}

func anyPathRule(r *rand.Rand) api.PathRule {
	return api.PathRule{Permit: r.IntN(2) == 0, Pattern: pick(r, "()", ".", "!", "65001 .*", ".* 65001", "(1|2)+ [3-4]?", "[65001-65009]", "0", fmt.Sprint(r.Uint32()))}
}

func anyCommunityRule(r *rand.Rand) api.CommunityRule {
	return api.CommunityRule{Permit: r.IntN(2) == 0, High: anyNumber(r, -1, 65535), Low: anyNumber(r, -1, 65535)}
}

// anyMatch returns a valid match for a set with lists.
func anyMatch(r *rand.Rand, s api.PolicySet) api.Match {
	m := api.Match{Kind: 1 + r.IntN(8), Not: r.IntN(2) == 0}
	named := []string{}
	switch m.Kind {
	case api.MatchPrefixList:
		named = mapped(s.Prefixes, func(l api.PrefixList) string { return l.Name })
	case api.MatchPathList:
		named = mapped(s.Paths, func(l api.PathList) string { return l.Name })
	case api.MatchCommunityList:
		named = mapped(s.Communities, func(l api.CommunityList) string { return l.Name })
	case api.MatchProtocol:
		m.N = anyNumber(r, 1, 7)
	case api.MatchTag:
		m.N = anyNumber(r, 0, maxNumber)
	case api.MatchMetric:
		m.N = anyNumber(r, 0, 1<<24)
	case api.MatchNextHop:
		m.Prefix = anyPrefix(r)
	case api.MatchPathLength:
		m.N = anyNumber(r, 0, 2000)
	}
	if m.Kind <= api.MatchCommunityList && len(named) == 0 {
		return api.Match{Kind: api.MatchTag, N: 7}
	}
	if len(named) > 0 {
		m.Name = pick(r, named...)
	}
	return m
}

// anyAction returns a valid action.
func anyAction(r *rand.Rand) api.Action {
	a := api.Action{Kind: 1 + r.IntN(8)}
	switch a.Kind {
	case api.SetPref, api.SetMED, api.SetTag:
		a.N = anyNumber(r, 0, maxNumber)
	case api.SetMetric:
		a.N = anyNumber(r, 0, 1<<24)
	case api.SetNextHop:
		a.Addr = pick(r, 1, math.MaxUint32, api.Addr(r.Uint32())|1)
	case api.AddCommunity, api.DeleteCommunity:
		a.Community = pick(r, 0, math.MaxUint32, api.NoExport, 65000<<16+100, r.Uint32())
	case api.Prepend:
		a.AS, a.N = anyNumber(r, 1, maxNumber), anyNumber(r, 1, 16)
	}
	return a
}

func several[T any](r *rand.Rand, most int, one func() T) []T {
	var l []T
	for range r.IntN(most + 1) {
		l = append(l, one())
	}
	return l
}

// anySet returns a valid set.
func anySet(r *rand.Rand) api.PolicySet {
	var s api.PolicySet
	for _, name := range anyNames(r, 3) {
		s.Prefixes = append(s.Prefixes, api.PrefixList{Name: name, Rules: several(r, 3, func() api.PrefixRule { return anyPrefixRule(r) })})
	}
	for _, name := range anyNames(r, 3) {
		s.Paths = append(s.Paths, api.PathList{Name: name, Rules: several(r, 3, func() api.PathRule { return anyPathRule(r) })})
	}
	for _, name := range anyNames(r, 3) {
		s.Communities = append(s.Communities, api.CommunityList{Name: name, Rules: several(r, 3, func() api.CommunityRule { return anyCommunityRule(r) })})
	}
	for _, name := range anyNames(r, 3) {
		p := api.Policy{Name: name, Default: 1 + r.IntN(2)}
		named := anyNames(r, 3)
		r.Shuffle(len(named), func(i, j int) { named[i], named[j] = named[j], named[i] })
		for _, name := range named {
			p.Terms = append(p.Terms, api.Term{
				Name: name, Verdict: 1 + r.IntN(3),
				Matches: several(r, 3, func() api.Match { return anyMatch(r, s) }), Actions: several(r, 3, func() api.Action { return anyAction(r) }),
			})
		}
		s.Policies = append(s.Policies, p)
	}
	return s
}

// damagedName returns a name that is mostly not valid, or not in order.
func damagedName(r *rand.Rand, name string) string {
	return pick(r, "", " ", "a b", "a_b", "é", "a\n", strings.Repeat("a", 33), name+"/", anyName(r), "", "zzz", "-")
}

var wrong = []int{math.MinInt, -1 << 32, -2, -1, 0, 1, 3, 4, 8, 9, 33, 2001, 65536, 1<<24 + 1, maxNumber, maxNumber + 1, 1<<32 + 1, math.MaxInt}

// many returns a list that is too long, if l has elements.
func many[T any](l []T) []T { return slices.Repeat(l, 65)[:min(65*len(l), 65)] }

// damaged returns a set with one thing in one of its elements changed.
func damaged(r *rand.Rand, s api.PolicySet) api.PolicySet {
	s = copied(s)
	if n := len(s.Prefixes); n > 0 && r.IntN(6) == 0 {
		damagePrefixList(r, &s.Prefixes[r.IntN(n)])
	} else if n := len(s.Paths); n > 0 && r.IntN(5) == 0 {
		damagePathList(r, &s.Paths[r.IntN(n)])
	} else if n := len(s.Communities); n > 0 && r.IntN(4) == 0 {
		damageCommunityList(r, &s.Communities[r.IntN(n)])
	} else if n := len(s.Policies); n > 0 && r.IntN(8) > 0 {
		damagePolicy(r, &s.Policies[r.IntN(n)])
	} else {
		damageNumbers(r, &s)
	}
	return s
}

func damagePrefixList(r *rand.Rand, l *api.PrefixList) {
	if len(l.Rules) == 0 || r.IntN(2) == 0 {
		l.Name = damagedName(r, l.Name)
		return
	}
	x := &l.Rules[r.IntN(len(l.Rules))]
	switch r.IntN(5) {
	case 0:
		x.Prefix.Addr++
	case 1:
		x.Prefix.Len = pick(r, wrong...)
	case 2:
		x.Min = pick(r, wrong...)
	case 3:
		x.Max = pick(r, wrong...)
	case 4:
		l.Rules = many(l.Rules)
	}
}

func damagePathList(r *rand.Rand, l *api.PathList) {
	if len(l.Rules) == 0 || r.IntN(2) == 0 {
		l.Name = damagedName(r, l.Name)
		return
	}
	l.Rules[r.IntN(len(l.Rules))].Pattern = pick(r, "", " ", "(1)", "1  2", "[2-1]", ".", "x", "1\n", "4294967296")
	if r.IntN(5) == 0 {
		l.Rules = many(l.Rules)
	}
}

func damageCommunityList(r *rand.Rand, l *api.CommunityList) {
	if len(l.Rules) == 0 || r.IntN(2) == 0 {
		l.Name = damagedName(r, l.Name)
		return
	}
	x := &l.Rules[r.IntN(len(l.Rules))]
	switch r.IntN(3) {
	case 0:
		x.High = pick(r, wrong...)
	case 1:
		x.Low = pick(r, wrong...)
	case 2:
		l.Rules = many(l.Rules)
	}
}

func damagePolicy(r *rand.Rand, p *api.Policy) {
	if len(p.Terms) == 0 || r.IntN(6) == 0 {
		p.Name = pick(r, p.Name, damagedName(r, p.Name))
		p.Default = pick(r, p.Default, pick(r, wrong...))
		if r.IntN(3) == 0 {
			p.Terms = many(p.Terms)
		}
		return
	}
	t := &p.Terms[r.IntN(len(p.Terms))]
	switch r.IntN(6) {
	case 0:
		t.Name = pick(r, damagedName(r, t.Name), p.Terms[0].Name)
	case 1:
		t.Verdict = pick(r, wrong...)
	case 2, 3:
		damageMatches(r, t)
	case 4, 5:
		damageActions(r, t)
	}
}

func damageMatches(r *rand.Rand, t *api.Term) {
	if len(t.Matches) == 0 {
		return
	}
	m := &t.Matches[r.IntN(len(t.Matches))]
	switch r.IntN(6) {
	case 0:
		m.Kind = pick(r, wrong...)
	case 1:
		m.Name = pick(r, anyName(r), "", "unknown")
	case 2:
		m.N = pick(r, wrong...)
	case 3:
		m.Prefix.Addr++
	case 4:
		m.Prefix.Len = pick(r, wrong...)
	case 5:
		t.Matches = many(t.Matches)
	}
}

func damageActions(r *rand.Rand, t *api.Term) {
	if len(t.Actions) == 0 {
		return
	}
	a := &t.Actions[r.IntN(len(t.Actions))]
	switch r.IntN(6) {
	case 0:
		a.Kind = pick(r, wrong...)
	case 1:
		a.AS = pick(r, wrong...)
	case 2:
		a.N = pick(r, wrong...)
	case 3:
		a.Addr = pick(r, 0, 1, a.Addr+1)
	case 4:
		a.Community = pick(r, 0, 1, a.Community+1)
	case 5:
		t.Actions = many(t.Actions)
	}
}

// damageNumbers changes the numbers of lists and policies, or their order.
func damageNumbers(r *rand.Rand, s *api.PolicySet) {
	switch r.IntN(5) {
	case 0:
		s.Prefixes = slices.Repeat(s.Prefixes, pick(r, 0, 2, 65))
	case 1:
		s.Paths = slices.Repeat(s.Paths, pick(r, 0, 2, 65))
	case 2:
		s.Communities = slices.Repeat(s.Communities, pick(r, 0, 2, 65))
	case 3:
		s.Policies = slices.Repeat(s.Policies, pick(r, 2, 65))
	case 4:
		slices.Reverse(s.Prefixes)
		slices.Reverse(s.Paths)
		slices.Reverse(s.Communities)
		slices.Reverse(s.Policies)
	}
}
