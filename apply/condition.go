package apply

import (
	"slices"

	"routing/api"
	"routing/community"
	"routing/plist"
	"routing/policy"
	"routing/prefix"
	"routing/regex"
)

// conditions returns a function that reports which matches hold for a subject, for matches that are valid in a set. Each
// condition is computed once, since a policy can name a long list in many terms.
func conditions(s api.PolicySet, r api.Subject) func(api.Match) bool {
	kinds := [...]func(api.Match) bool{
		api.MatchPrefixList: func(m api.Match) bool {
			i := slices.IndexFunc(s.Prefixes, func(l api.PrefixList) bool { return l.Name == m.Name })
			return plist.Permits(s.Prefixes[i].Rules, r.Prefix)
		},
		api.MatchPathList: func(m api.Match) bool {
			i := slices.IndexFunc(s.Paths, func(l api.PathList) bool { return l.Name == m.Name })
			return permitsPath(s.Paths[i].Rules, r.Path)
		},
		api.MatchCommunityList: func(m api.Match) bool {
			i := slices.IndexFunc(s.Communities, func(l api.CommunityList) bool { return l.Name == m.Name })
			return community.Permits(s.Communities[i].Rules, r.Communities)
		},
		api.MatchProtocol:   func(m api.Match) bool { return r.Protocol == m.N },
		api.MatchTag:        func(m api.Match) bool { return r.Tag == m.N },
		api.MatchMetric:     func(m api.Match) bool { return r.Metric <= m.N },
		api.MatchNextHop:    func(m api.Match) bool { return prefix.Contains(m.Prefix, r.NextHop) },
		api.MatchPathLength: func(m api.Match) bool { return len(r.Path) <= m.N },
	}
	known := map[api.Match]bool{}
	return func(m api.Match) bool {
		not := m.Not
		m.Not = false
		holds, ok := known[m]
		if !ok {
			holds = kinds[m.Kind](m)
			known[m] = holds
		}
		return holds != not
	}
}

// permitsPath reports whether the first rule whose pattern matches a path permits it; without one it is denied.
func permitsPath(rules []api.PathRule, path []int) bool {
	i := slices.IndexFunc(rules, func(r api.PathRule) bool {
		pattern, err := regex.Parse(r.Pattern)
		return err == api.OK && regex.Match(pattern, path)
	})
	return i >= 0 && rules[i].Permit
}

// checkMatch checks a match for a valid set.
func checkMatch(s api.PolicySet, m api.Match) api.Errno {
	s.Policies = only(api.Term{Matches: []api.Match{m}})
	return policy.Check(s)
}

// only returns a policy that is valid if a term is, but for the term's name and verdict, which are set.
func only(t api.Term) []api.Policy {
	t.Name, t.Verdict = "term", api.Accept
	return []api.Policy{{Name: "policy", Terms: []api.Term{t}, Default: api.Accept}}
}
