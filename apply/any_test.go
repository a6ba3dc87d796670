package apply_test

import (
	"math"
	"math/rand/v2"
	"slices"
	"strconv"

	"routing/api"
)

func pick[T any](r *rand.Rand, l ...T) T { return l[r.IntN(len(l))] }

func several[T any](r *rand.Rand, most int, one func(*rand.Rand) T) []T {
	var l []T
	for range r.IntN(most + 1) {
		l = append(l, one(r))
	}
	return l
}

var wrong = []int{math.MinInt, -1 << 32, -1, 0, 1, 2, 7, 8, 9, 16, 17, 33, 2000, 2001, maxCost, maxCost + 1, maxNumber, maxNumber + 1, math.MaxInt}

// anySubject returns a valid subject, for which about half of the matches of anyMatch hold.
func anySubject(r *rand.Rand) api.Subject {
	s := api.Subject{
		Prefix:   pick(r, api.Prefix{}, api.Prefix{Addr: 0x0a000000, Len: 8}, api.Prefix{Addr: 0x0a010000, Len: 16}, api.Prefix{Addr: 0x0a020300, Len: 24}, api.Prefix{Addr: 0x0a020304, Len: 32}, api.Prefix{Addr: 0xac100000, Len: 12}),
		Protocol: pick(r, 1, 6, 6, 7),
		NextHop:  pick[api.Addr](r, 0, 0x0a000001, 0x0a000002, 0x0b000001, 0xffffffff),
		Path:     several(r, 4, func(r *rand.Rand) int { return pick(r, 65001, 65002, 65003, 1, maxNumber) }),
		Pref:     pick(r, 0, 100, maxNumber), MED: pick(r, 0, 5, maxNumber), Metric: pick(r, 0, 5, 6, maxCost), Tag: pick(r, 0, 3, 7, maxNumber),
	}
	s.Communities = several(r, 3, func(r *rand.Rand) uint32 {
		return pick[uint32](r, 65000<<16+1, 65000<<16+2, 65001<<16+1, api.NoExport, 0)
	})
	slices.Sort(s.Communities)
	s.Communities = slices.Compact(s.Communities)
	return s
}

// anyMatch returns a valid match for a set with the lists of these tests.
func anyMatch(r *rand.Rand) api.Match {
	m := api.Match{Kind: 1 + r.IntN(8), Not: r.IntN(3) == 0}
	switch m.Kind {
	case api.MatchPrefixList:
		m.Name = pick(r, "all", "own", "own", "none")
	case api.MatchPathList:
		m.Name = pick(r, "from", "through", "through", "none")
	case api.MatchCommunityList:
		m.Name = pick(r, "blue", "well", "none")
	case api.MatchProtocol:
		m.N = pick(r, 6, 6, 7, 1)
	case api.MatchTag:
		m.N = pick(r, 0, 3, 7)
	case api.MatchMetric:
		m.N = pick(r, 0, 4, 5, 6, maxCost)
	case api.MatchNextHop:
		m.Prefix = pick(r, api.Prefix{}, api.Prefix{Addr: 0x0a000000, Len: 8}, api.Prefix{Addr: 0x0a000000, Len: 31}, api.Prefix{Addr: 0x0a000001, Len: 32})
	case api.MatchPathLength:
		m.N = pick(r, 0, 1, 2, 3, maxEntries)
	}
	return m
}

// anyAction returns a valid action.
func anyAction(r *rand.Rand) api.Action {
	a := api.Action{Kind: 1 + r.IntN(8)}
	switch a.Kind {
	case api.SetPref, api.SetMED, api.SetTag:
		a.N = pick(r, 0, 3, 7, 200, maxNumber)
	case api.SetMetric:
		a.N = pick(r, 0, 5, maxCost)
	case api.SetNextHop:
		a.Addr = pick[api.Addr](r, 1, 0x0a000001, math.MaxUint32)
	case api.AddCommunity, api.DeleteCommunity:
		a.Community = pick[uint32](r, 65000<<16+1, 65000<<16+2, 0, api.NoExport, math.MaxUint32)
	case api.Prepend:
		a.AS, a.N = pick(r, 1, 65009, maxNumber), pick(r, 1, 2, 16)
	}
	return a
}

// anyTerms returns valid terms.
func anyTerms(r *rand.Rand) []api.Term {
	terms := several(r, 5, func(r *rand.Rand) api.Term {
		return api.Term{Matches: several(r, 2, anyMatch), Actions: several(r, 3, anyAction), Verdict: pick(r, 1, 2, 3, 3)}
	})
	for i := range terms {
		terms[i].Name = strconv.Itoa(i)
	}
	return terms
}

// anySet returns a set with the given lists and some policies, and the name of one of these.
func anySet(r *rand.Rand, s api.PolicySet) (api.PolicySet, string) {
	s.Policies = nil
	for i := range 1 + r.IntN(3) {
		s.Policies = append(s.Policies, api.Policy{Name: strconv.Itoa(i), Terms: anyTerms(r), Default: 1 + r.IntN(2)})
	}
	return s, pick(r, s.Policies...).Name
}

// damagedSubject returns a subject that is mostly not valid.
func damagedSubject(r *rand.Rand, s api.Subject) api.Subject {
	s = copied(s)
	switch r.IntN(9) {
	case 0:
		s.Prefix.Addr++
	case 1:
		s.Prefix.Len = pick(r, wrong...)
	case 2:
		s.Protocol = pick(r, wrong...)
	case 3:
		s.Path = append(s.Path, pick(r, wrong...))
	case 4:
		s.Path = slices.Repeat(append(s.Path, 1), pick(r, 1, 500, 2000, 2001))
	case 5:
		s.Communities = pick(r, append(s.Communities, s.Communities...), append(s.Communities, 7), make([]uint32, 256))
	case 6:
		s.Pref, s.MED = pick(r, s.Pref, pick(r, wrong...)), pick(r, s.MED, pick(r, wrong...))
	case 7:
		s.Metric = pick(r, wrong...)
	case 8:
		s.Tag = pick(r, wrong...)
	}
	return s
}

// damagedMatch returns a match that is mostly not valid.
func damagedMatch(r *rand.Rand, m api.Match) api.Match {
	switch r.IntN(5) {
	case 0:
		m.Kind = pick(r, wrong...)
	case 1:
		m.Name = pick(r, "", "all", "unknown", "a b", "own")
	case 2:
		m.N = pick(r, wrong...)
	case 3:
		m.Prefix.Addr++
	case 4:
		m.Prefix.Len = pick(r, wrong...)
	}
	return m
}

// damagedAction returns an action that is mostly not valid.
func damagedAction(r *rand.Rand, a api.Action) api.Action {
	switch r.IntN(5) {
	case 0:
		a.Kind = pick(r, wrong...)
	case 1:
		a.AS = pick(r, wrong...)
	case 2:
		a.N = pick(r, wrong...)
	case 3:
		a.Addr = pick(r, 0, 1, a.Addr+1)
	case 4:
		a.Community = pick(r, 0, 1, a.Community+1)
	}
	return a
}

// damagedSet returns a set with a policy or a list that is mostly not valid.
func damagedSet(r *rand.Rand, s api.PolicySet) api.PolicySet {
	s.Policies = slices.Clone(s.Policies)
	p := &s.Policies[r.IntN(len(s.Policies))]
	p.Terms = slices.Clone(p.Terms)
	switch r.IntN(6) {
	case 0:
		p.Default = pick(r, wrong...)
	case 1:
		p.Name = pick(r, "", "a b", "0", "zz")
	case 2:
		p.Terms = append(p.Terms, api.Term{Name: "x", Matches: []api.Match{damagedMatch(r, anyMatch(r))}, Verdict: api.Accept})
	case 3:
		p.Terms = append(p.Terms, api.Term{Name: "x", Actions: []api.Action{damagedAction(r, anyAction(r))}, Verdict: api.Accept})
	case 4:
		s.Prefixes = append(slices.Clone(s.Prefixes), api.PrefixList{Name: pick(r, "a", "z"), Rules: []api.PrefixRule{{Min: pick(r, 0, 0, 33), Max: 32}}})
	case 5:
		s.Paths = append(slices.Clone(s.Paths), api.PathList{Name: "z", Rules: []api.PathRule{{Pattern: pick(r, "", ".", "(1)")}}})
	}
	return s
}
