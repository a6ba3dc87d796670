package compile

import (
	"slices"

	"routing/api"
	"routing/community"
	"routing/dfa"
	"routing/plist"
	"routing/policy"
	"routing/prefix"
)

// anyName is the name of all lists, policies and terms that exist only to be checked.
const anyName = "name"

// checkTest reports whether a test is valid.
func checkTest(t api.Test) api.Errno {
	if t.Kind < api.MatchPrefixList || t.Kind > api.MatchPathLength {
		return api.ErrKind
	}
	used := api.Test{Kind: t.Kind}
	switch t.Kind {
	case api.MatchPrefixList:
		used.Prefixes = t.Prefixes
	case api.MatchPathList:
		used.Path = t.Path
	case api.MatchCommunityList:
		used.Communities = t.Communities
	case api.MatchNextHop:
		used.Prefix = t.Prefix
	default:
		used.N = t.N
	}
	if !sameTest(t, used) {
		return api.ErrInvalid
	}
	return checkUsed(t)
}

// checkUsed checks the field that a test uses.
func checkUsed(t api.Test) api.Errno {
	switch t.Kind {
	case api.MatchPrefixList:
		return policy.Check(api.PolicySet{Prefixes: []api.PrefixList{{Name: anyName, Rules: t.Prefixes}}})
	case api.MatchPathList:
		return dfa.Check(t.Path)
	case api.MatchCommunityList:
		return policy.Check(api.PolicySet{Communities: []api.CommunityList{{Name: anyName, Rules: t.Communities}}})
	}
	return checkTerm(api.Term{Matches: []api.Match{{Kind: t.Kind, N: t.N, Prefix: t.Prefix}}})
}

// checkTerm checks a term without its name and verdict, and without lists.
func checkTerm(t api.Term) api.Errno {
	t.Name, t.Verdict = anyName, api.Accept
	return policy.Check(api.PolicySet{Policies: []api.Policy{{Name: anyName, Terms: []api.Term{t}, Default: api.Accept}}})
}

// holds reports whether a valid test holds for a route.
func holds(t api.Test, r api.Subject) bool {
	switch t.Kind {
	case api.MatchPrefixList:
		return plist.Permits(t.Prefixes, r.Prefix)
	case api.MatchPathList:
		return dfa.Match(t.Path, r.Path)
	case api.MatchCommunityList:
		return community.Permits(t.Communities, r.Communities)
	case api.MatchProtocol:
		return r.Protocol == t.N
	case api.MatchTag:
		return r.Tag == t.N
	case api.MatchMetric:
		return r.Metric <= t.N
	case api.MatchNextHop:
		return prefix.Contains(t.Prefix, r.NextHop)
	}
	return len(r.Path) <= t.N
}

// sameTest reports whether two tests are equal.
func sameTest(a, b api.Test) bool {
	return a.Kind == b.Kind && a.N == b.N && a.Prefix == b.Prefix && slices.Equal(a.Prefixes, b.Prefixes) &&
		slices.Equal(a.Communities, b.Communities) && dfa.Equal(a.Path, b.Path)
}

// duplicate returns a test that shares no memory with t.
func duplicate(t api.Test) api.Test {
	t.Prefixes, t.Communities = slices.Clone(t.Prefixes), slices.Clone(t.Communities)
	t.Path.Starts, t.Path.Accept = slices.Clone(t.Path.Starts), slices.Clone(t.Path.Accept)
	t.Path.Next = slices.Clone(t.Path.Next)
	for i, row := range t.Path.Next {
		t.Path.Next[i] = slices.Clone(row)
	}
	return t
}
