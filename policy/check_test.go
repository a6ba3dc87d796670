package policy_test

import (
	"fmt"
	"math"
	"math/rand/v2"
	"slices"
	"strings"
	"testing"

	"routing/api"
	"routing/policy"
)

// agreeCheck fails unless Check returns an error, and the promise does.
func agreeCheck(t *testing.T, what string, s api.PolicySet, want api.Errno) {
	t.Helper()
	if e := policy.Check(s); e != want || checked(s) != want {
		t.Errorf("%s: %v instead of %v (%v)", what, e, want, checked(s))
	}
}

// lists is a set with one list of each sort, named a.
func lists() api.PolicySet {
	return api.PolicySet{
		Prefixes:    []api.PrefixList{{Name: "a"}},
		Paths:       []api.PathList{{Name: "a"}},
		Communities: []api.CommunityList{{Name: "a"}},
	}
}

// withTerms is a set with one list of each sort, and a policy of some terms.
func withTerms(terms ...api.Term) api.PolicySet {
	s := lists()
	s.Policies = []api.Policy{{Name: "p", Terms: terms, Default: api.Accept}}
	return s
}

func withMatches(l ...api.Match) api.PolicySet {
	return withTerms(api.Term{Name: "t", Matches: l, Verdict: api.Accept})
}

func withActions(l ...api.Action) api.PolicySet {
	return withTerms(api.Term{Name: "t", Actions: l, Verdict: api.Accept})
}

// numbered returns n elements, made from strictly ascending names.
func numbered[T any](n int, element func(name string) T) []T {
	var l []T
	for i := range n {
		l = append(l, element(fmt.Sprintf("n%05d", i)))
	}
	return l
}

func prefixList(name string) api.PrefixList       { return api.PrefixList{Name: name} }
func pathList(name string) api.PathList           { return api.PathList{Name: name} }
func communityList(name string) api.CommunityList { return api.CommunityList{Name: name} }
func acceptAll(name string) api.Policy            { return api.Policy{Name: name, Default: api.Accept} }
func acceptTerm(name string) api.Term             { return api.Term{Name: name, Verdict: api.Accept} }

// The sets with some lists or policies only.
func ofPrefixes(l ...api.PrefixList) api.PolicySet       { return api.PolicySet{Prefixes: l} }
func ofPaths(l ...api.PathList) api.PolicySet            { return api.PolicySet{Paths: l} }
func ofCommunities(l ...api.CommunityList) api.PolicySet { return api.PolicySet{Communities: l} }
func ofPolicies(l ...api.Policy) api.PolicySet           { return api.PolicySet{Policies: l} }

// named are sets with elements of each sort, and with terms, with such names.
func named(names ...string) map[string]api.PolicySet {
	return map[string]api.PolicySet{
		"prefix lists":    ofPrefixes(mapped(names, prefixList)...),
		"path lists":      ofPaths(mapped(names, pathList)...),
		"community lists": ofCommunities(mapped(names, communityList)...),
		"policies":        ofPolicies(mapped(names, acceptAll)...),
		"terms":           withTerms(mapped(names, acceptTerm)...),
	}
}

// P20.1: valid sets.
func TestCheckValid(t *testing.T) {
	full := api.PolicySet{
		Prefixes:    numbered(maxList, prefixList),
		Paths:       numbered(maxList, pathList),
		Communities: numbered(maxList, communityList),
		Policies:    numbered(maxList, acceptAll),
	}
	full.Prefixes[63].Rules = make([]api.PrefixRule, maxList)
	full.Paths[63].Rules = slices.Repeat([]api.PathRule{{Pattern: "."}}, maxList)
	full.Communities[63].Rules = make([]api.CommunityRule, maxList)
	full.Policies[63].Terms = numbered(maxList, acceptTerm)
	full.Policies[63].Terms[63].Matches = slices.Repeat([]api.Match{{Kind: api.MatchTag}}, maxList)
	full.Policies[63].Terms[63].Actions = slices.Repeat([]api.Action{{Kind: api.SetTag}}, maxList)
	for i, s := range []api.PolicySet{{}, exampleSet(), lists(), full, ofPolicies(api.Policy{Name: "a", Default: api.Accept}, api.Policy{Name: "b", Default: api.Reject})} {
		agreeCheck(t, fmt.Sprint("set ", i), s, api.OK)
	}
	for v := api.Accept; v <= api.NextTerm; v++ {
		agreeCheck(t, "a verdict", withTerms(api.Term{Name: "t", Verdict: v}), api.OK)
	}
	// Names are compared byte by byte; terms need no order, and other sorts and policies may have the same names.
	for what, s := range named("-", "-a", "0", "10", "9", "A", "Z", "a", "a-", "a0", "aA", "aa", "b", strings.Repeat("z", 31), strings.Repeat("z", 32)) {
		agreeCheck(t, what, s, api.OK)
	}
	s := withTerms(acceptTerm("b"), acceptTerm("a"), acceptTerm("p"))
	s.Policies = append(s.Policies, api.Policy{Name: "q", Terms: []api.Term{acceptTerm("b")}, Default: api.Reject})
	agreeCheck(t, "terms without order", s, api.OK)
}

// P20.1: names.
func TestCheckNames(t *testing.T) {
	for _, name := range []string{
		"", " ", "a b", " a", "a ", "a\n", "\n", "a\x00", "a\t", "a_b", "a.b", "a/b", "a:b", "a*", "é", "ä", "a\xff", "ａ", "@", "[", "`", "{", "/", ":", ",", "--\u00ad", "_", "+",
		strings.Repeat("a", 33), strings.Repeat("-", 1000), strings.Repeat("é", 16),
	} {
		for what, s := range named(name) {
			agreeCheck(t, fmt.Sprintf("%s with the name %q", what, name), s, api.ErrInvalid)
		}
	}
	for c := range 256 {
		want := api.ErrInvalid
		if names.MatchString(string([]byte{byte(c)})) {
			want = api.OK
		}
		for what, s := range named("a" + string([]byte{byte(c)}) + "b") {
			agreeCheck(t, fmt.Sprintf("%s with the byte %d", what, c), s, want)
		}
	}
	for _, l := range [][]string{{"b", "a"}, {"a", "a"}, {"a", "b", "b"}, {"a", "c", "b"}, {"aa", "a"}, {"a", "A"}, {"9", "10"}, {"a", "-"}, {"b", "c", "a", "d"}} {
		for what, s := range named(l...) {
			want := api.ErrOrder
			if what == "terms" {
				want = checked(s)
			}
			agreeCheck(t, fmt.Sprint(what, l), s, want)
		}
	}
	for _, l := range [][]string{{"a", "a"}, {"a", "b", "a"}, {"b", "a", "a"}, {"a", "b", "c", "b"}} {
		agreeCheck(t, fmt.Sprint("terms ", l), named(l...)["terms"], api.ErrExists)
	}
	for what, s := range named("b", "", "a") {
		agreeCheck(t, what+": a name that is none before one not in order", s, api.ErrInvalid)
	}
	for what, s := range named("b", "a b") {
		agreeCheck(t, what+": a name that is none and is not in order", s, api.ErrInvalid)
	}
}

// P20.1: too many elements.
func TestCheckTooLong(t *testing.T) {
	for _, n := range []int{maxList + 1, 100, 1000} {
		for what, s := range map[string]api.PolicySet{
			"prefix lists":    ofPrefixes(numbered(n, prefixList)...),
			"path lists":      ofPaths(numbered(n, pathList)...),
			"community lists": ofCommunities(numbered(n, communityList)...),
			"policies":        ofPolicies(numbered(n, acceptAll)...),
			"prefix rules":    ofPrefixes(api.PrefixList{Name: "a", Rules: make([]api.PrefixRule, n)}),
			"path rules":      ofPaths(api.PathList{Name: "a", Rules: slices.Repeat([]api.PathRule{{Pattern: "."}}, n)}),
			"community rules": ofCommunities(api.CommunityList{Name: "a", Rules: make([]api.CommunityRule, n)}),
			"terms":           withTerms(numbered(n, acceptTerm)...),
			"matches":         withMatches(slices.Repeat([]api.Match{{Kind: api.MatchTag}}, n)...),
			"actions":         withActions(slices.Repeat([]api.Action{{Kind: api.SetTag}}, n)...),
			// The number comes before the errors of the elements.
			"bad prefix lists":    ofPrefixes(make([]api.PrefixList, n)...),
			"bad path lists":      ofPaths(make([]api.PathList, n)...),
			"bad community lists": ofCommunities(make([]api.CommunityList, n)...),
			"bad policies":        ofPolicies(make([]api.Policy, n)...),
			"bad prefix rules":    ofPrefixes(api.PrefixList{Name: "a", Rules: slices.Repeat([]api.PrefixRule{{Min: 1}}, n)}),
			"bad path rules":      ofPaths(api.PathList{Name: "a", Rules: make([]api.PathRule, n)}),
			"bad community rules": ofCommunities(api.CommunityList{Name: "a", Rules: slices.Repeat([]api.CommunityRule{{Low: -2}}, n)}),
			"bad terms":           withTerms(make([]api.Term, n)...),
			"bad matches":         withMatches(make([]api.Match, n)...),
			"bad actions":         withActions(make([]api.Action, n)...),
		} {
			agreeCheck(t, fmt.Sprint(n, " ", what), s, api.ErrTooLong)
		}
	}
}

// P20.1: rules of lists.
func TestCheckRules(t *testing.T) {
	for _, c := range []struct {
		r    api.PrefixRule
		want api.Errno
	}{
		{api.PrefixRule{Permit: true, Prefix: api.Prefix{Len: 8}, Min: 8, Max: 32}, api.OK}, {api.PrefixRule{Prefix: api.Prefix{Addr: 1, Len: 8}, Min: 8, Max: 8}, api.ErrInvalid}, {api.PrefixRule{Prefix: api.Prefix{Len: 8}, Min: 7, Max: 8}, api.ErrRange}, {api.PrefixRule{Prefix: api.Prefix{Len: 8}, Min: 8, Max: 33}, api.ErrRange},
	} {
		agreeCheck(t, fmt.Sprint(c.r), ofPrefixes(api.PrefixList{Name: "a", Rules: []api.PrefixRule{{}, c.r, {}}}), c.want)
	}
	for _, pattern := range []string{"", " ", "(1)", "1  2", " 1", "1 ", "[2-1]", "[1-1]", "x", "1\n", "4294967296", "01", strings.Repeat("1 ", 64) + "1", strings.Repeat("(", 100000)} {
		agreeCheck(t, pattern, ofPaths(api.PathList{Name: "a", Rules: []api.PathRule{{Pattern: "."}, {Permit: true, Pattern: pattern}}}), api.ErrSyntax)
	}
	for _, pattern := range []string{"()", "!", ".", "65001 .*", "(65001|[65010-65019])+", "0", "4294967295", strings.Repeat("1 ", 62) + "1"} {
		agreeCheck(t, pattern, ofPaths(api.PathList{Name: "a", Rules: []api.PathRule{{Pattern: pattern}}}), api.OK)
	}
	parts := []int{math.MinInt, -1 << 32, -65536, -2, -1, 0, 1, 65534, 65535, 65536, 65537, 1 << 32, 1<<32 - 1, math.MaxInt}
	for _, high := range parts {
		for _, low := range parts {
			want := api.ErrRange
			if high >= -1 && high <= 65535 && low >= -1 && low <= 65535 {
				want = api.OK
			}
			r := api.CommunityRule{Permit: high > low, High: high, Low: low}
			agreeCheck(t, fmt.Sprint(r), ofCommunities(api.CommunityList{Name: "a", Rules: []api.CommunityRule{{}, r}}), want)
		}
	}
}

// numbersAround are the numbers near the limits of the ranges.
var numbersAround = []int{math.MinInt, -1 << 32, -1, 0, 1, 2, 6, 7, 8, 15, 16, 17, 1999, 2000, 2001, 1<<24 - 1, 1 << 24, 1<<24 + 1, maxNumber - 1, maxNumber, maxNumber + 1, 1<<32 + 1, math.MaxInt}

var kindsAround = []int{math.MinInt, -8, -1, 0, 1, 2, 3, 4, 5, 6, 7, 8, 9, 10, 1 << 32, 1<<32 + 1, math.MaxInt}

// P20.1: all fields of matches.
func TestCheckMatches(t *testing.T) {
	for _, kind := range kindsAround {
		for _, n := range numbersAround {
			for _, name := range []string{"", "a", "b"} {
				for _, p := range []api.Prefix{{}, {Addr: 1 << 24, Len: 8}, {Len: 32}, {Addr: 1}, {Addr: 1, Len: 8}, {Len: -1}, {Len: 33}} {
					m := api.Match{Kind: kind, N: n, Name: name, Prefix: p, Not: n%2 == 0}
					s := withMatches(m)
					if e := policy.Check(s); e != checked(s) {
						t.Fatalf("Check with %+v = %v instead of %v", m, e, checked(s))
					}
				}
			}
		}
	}
	for i, c := range []struct {
		m    api.Match
		want api.Errno
	}{
		{api.Match{Kind: api.MatchPrefixList, Name: "a"}, api.OK}, {api.Match{Kind: api.MatchPathList, Name: "a"}, api.OK}, {api.Match{Kind: api.MatchCommunityList, Name: "a"}, api.OK}, {api.Match{Kind: api.MatchNextHop}, api.OK}, {api.Match{Kind: api.MatchNextHop, Prefix: api.Prefix{Addr: 1, Len: 32}, Not: true}, api.OK},
		{api.Match{Kind: api.MatchProtocol, N: 1}, api.OK}, {api.Match{Kind: api.MatchProtocol, N: 7}, api.OK}, {api.Match{Kind: api.MatchProtocol, N: 8}, api.ErrRange}, {api.Match{Kind: api.MatchProtocol}, api.ErrRange}, {api.Match{Kind: api.MatchTag, N: 4294967295}, api.OK}, {api.Match{Kind: api.MatchTag, N: 4294967296}, api.ErrRange}, {api.Match{Kind: api.MatchTag, N: -1}, api.ErrRange},
		{api.Match{Kind: api.MatchMetric, N: 16777216}, api.OK}, {api.Match{Kind: api.MatchMetric, N: 16777217}, api.ErrRange}, {api.Match{Kind: api.MatchMetric, N: -1}, api.ErrRange}, {api.Match{Kind: api.MatchPathLength, N: 2000}, api.OK}, {api.Match{Kind: api.MatchPathLength, N: 2001}, api.ErrRange}, {api.Match{Kind: api.MatchPathLength}, api.OK}, {api.Match{Kind: api.MatchPathLength, N: -1}, api.ErrRange},
		{api.Match{}, api.ErrKind}, {api.Match{Kind: 9}, api.ErrKind}, {api.Match{Kind: 9, Name: "a", N: -1}, api.ErrKind}, {api.Match{Kind: api.MatchPrefixList, Name: "b", N: 1}, api.ErrInvalid}, {api.Match{Kind: api.MatchPrefixList, Name: "b"}, api.ErrNotFound}, {api.Match{Kind: api.MatchPrefixList}, api.ErrNotFound}, {api.Match{Kind: api.MatchProtocol, N: 8, Name: "a"}, api.ErrInvalid}, {api.Match{Kind: api.MatchNextHop, Prefix: api.Prefix{Len: 33}}, api.ErrInvalid},
	} {
		agreeCheck(t, fmt.Sprint("match ", i), withMatches(c.m), c.want)
		if c.want != api.OK {
			agreeCheck(t, fmt.Sprint("match ", i, " after others"), withMatches(api.Match{Kind: api.MatchTag}, c.m, api.Match{Kind: -1}), c.want)
		}
	}
	// A list of another sort does not count, nor does a later policy.
	for kind := api.MatchPrefixList; kind <= api.MatchCommunityList; kind++ {
		for sort := api.MatchPrefixList; sort <= api.MatchCommunityList; sort++ {
			s := withMatches(api.Match{Kind: kind, Name: "x"})
			want := api.ErrNotFound
			switch sort {
			case api.MatchPrefixList:
				s.Prefixes = append(s.Prefixes, prefixList("x"))
			case api.MatchPathList:
				s.Paths = append(s.Paths, pathList("x"))
			case api.MatchCommunityList:
				s.Communities = append(s.Communities, communityList("x"))
			}
			if sort == kind {
				want = api.OK
			}
			s.Policies = append(s.Policies, acceptAll("x"))
			agreeCheck(t, fmt.Sprint("kind ", kind, " with a list of sort ", sort), s, want)
		}
	}
}

// P20.1: all fields of actions.
func TestCheckActions(t *testing.T) {
	for _, kind := range kindsAround {
		for _, n := range numbersAround {
			for _, as := range numbersAround {
				for _, c := range []uint32{0, 1, math.MaxUint32} {
					for _, a := range []api.Addr{0, 1, math.MaxUint32} {
						x := api.Action{Kind: kind, N: n, AS: as, Community: c, Addr: a}
						s := withActions(x)
						if e := policy.Check(s); e != checked(s) {
							t.Fatalf("Check with %+v = %v instead of %v", x, e, checked(s))
						}
					}
				}
			}
		}
	}
	for i, c := range []struct {
		a    api.Action
		want api.Errno
	}{
		{api.Action{Kind: api.SetPref}, api.OK}, {api.Action{Kind: api.SetPref, N: 4294967295}, api.OK}, {api.Action{Kind: api.SetPref, N: 4294967296}, api.ErrRange}, {api.Action{Kind: api.SetMED, N: 4294967295}, api.OK}, {api.Action{Kind: api.SetMED, N: -1}, api.ErrRange}, {api.Action{Kind: api.SetTag, N: 4294967295}, api.OK}, {api.Action{Kind: api.SetTag, N: 4294967296}, api.ErrRange},
		{api.Action{Kind: api.SetMetric, N: 16777216}, api.OK}, {api.Action{Kind: api.SetMetric, N: 16777217}, api.ErrRange}, {api.Action{Kind: api.SetMetric, N: -1}, api.ErrRange}, {api.Action{Kind: api.SetNextHop}, api.ErrRange}, {api.Action{Kind: api.SetNextHop, Addr: 1}, api.OK},
		{api.Action{Kind: api.AddCommunity}, api.OK}, {api.Action{Kind: api.DeleteCommunity, Community: math.MaxUint32}, api.OK}, {api.Action{Kind: api.AddCommunity, N: 1}, api.ErrInvalid},
		{api.Action{Kind: api.Prepend, AS: 1, N: 1}, api.OK}, {api.Action{Kind: api.Prepend, AS: 4294967295, N: 16}, api.OK}, {api.Action{Kind: api.Prepend, AS: 1, N: 17}, api.ErrRange}, {api.Action{Kind: api.Prepend, AS: 1}, api.ErrRange}, {api.Action{Kind: api.Prepend, N: 1}, api.ErrRange}, {api.Action{Kind: api.Prepend, AS: 4294967296, N: 1}, api.ErrRange}, {api.Action{Kind: api.Prepend, AS: -1, N: 1}, api.ErrRange},
		{api.Action{}, api.ErrKind}, {api.Action{Kind: 9, N: 1, AS: 1}, api.ErrKind}, {api.Action{Kind: -1}, api.ErrKind}, {api.Action{Kind: api.SetPref, N: -1, AS: 1}, api.ErrInvalid}, {api.Action{Kind: api.SetNextHop, Community: 1}, api.ErrInvalid}, {api.Action{Kind: api.Prepend, Addr: 1}, api.ErrInvalid},
	} {
		agreeCheck(t, fmt.Sprint("action ", i), withActions(c.a), c.want)
		if c.want != api.OK {
			agreeCheck(t, fmt.Sprint("action ", i, " after others"), withActions(api.Action{Kind: api.SetTag}, c.a, api.Action{Kind: -1}), c.want)
		}
	}
}

// P20.1: verdicts and defaults.
func TestCheckVerdicts(t *testing.T) {
	for _, v := range []int{math.MinInt, -1, 0, 4, 5, 1 << 32, 1<<32 + 1, math.MaxInt} {
		agreeCheck(t, fmt.Sprint("the verdict ", v), withTerms(api.Term{Name: "t", Verdict: v}), api.ErrKind)
		agreeCheck(t, fmt.Sprint("the default ", v), ofPolicies(api.Policy{Name: "p", Default: v}), api.ErrKind)
	}
	agreeCheck(t, "the default next", ofPolicies(api.Policy{Name: "p", Default: api.NextTerm}), api.ErrKind)
}

// P20.1: which of several errors is returned.
func TestCheckOrder(t *testing.T) {
	bad := api.Policy{Name: "p"}
	term := func(name string, verdict int, l ...api.Match) api.Term {
		return api.Term{Name: name, Matches: l, Verdict: verdict}
	}
	ofTerms := func(fallback int, l ...api.Term) api.PolicySet {
		return ofPolicies(api.Policy{Name: "p", Terms: l, Default: fallback})
	}
	manyMatches := make([]api.Match, 65)
	for what, c := range map[string]struct {
		s    api.PolicySet
		want api.Errno
	}{
		"a prefix rule before too many path lists":         {api.PolicySet{Prefixes: []api.PrefixList{{Name: "a", Rules: []api.PrefixRule{{Min: 1}}}}, Paths: make([]api.PathList, 65)}, api.ErrRange},
		"too many path lists before a community list":      {api.PolicySet{Paths: make([]api.PathList, 65), Communities: make([]api.CommunityList, 1)}, api.ErrTooLong},
		"a path rule before too many community lists":      {api.PolicySet{Paths: []api.PathList{{Name: "a", Rules: []api.PathRule{{}}}}, Communities: make([]api.CommunityList, 65)}, api.ErrSyntax},
		"a community rule before too many policies":        {api.PolicySet{Communities: []api.CommunityList{{Name: "a", Rules: []api.CommunityRule{{Low: -2}}}}, Policies: make([]api.Policy, 65)}, api.ErrRange},
		"a community list before a policy":                 {api.PolicySet{Communities: make([]api.CommunityList, 1), Policies: []api.Policy{bad}}, api.ErrInvalid},
		"a rule of the first list before the second name":  {ofPrefixes(api.PrefixList{Name: "b", Rules: []api.PrefixRule{{Prefix: api.Prefix{Len: 40}}}}, prefixList("a")), api.ErrInvalid},
		"too many rules of the first list":                 {ofPaths(api.PathList{Name: "b", Rules: make([]api.PathRule, 65)}, pathList("a")), api.ErrTooLong},
		"a name before too many rules":                     {ofPaths(api.PathList{Name: "", Rules: make([]api.PathRule, 65)}), api.ErrInvalid},
		"the order before too many rules":                  {ofPaths(pathList("b"), api.PathList{Name: "a", Rules: make([]api.PathRule, 65)}), api.ErrOrder},
		"two bad path rules":                               {ofPaths(api.PathList{Name: "a", Rules: []api.PathRule{{}, {}}}), api.ErrSyntax},
		"two bad prefix rules":                             {ofPrefixes(api.PrefixList{Name: "a", Rules: []api.PrefixRule{{Min: 1}, {Prefix: api.Prefix{Len: 33}}}}), api.ErrRange},
		"a default before the next policy":                 {ofPolicies(bad, api.Policy{Name: ""}), api.ErrKind},
		"a policy's name before its terms":                 {ofPolicies(api.Policy{Name: "", Terms: make([]api.Term, 65)}), api.ErrInvalid},
		"a policy's order before its terms":                {ofPolicies(acceptAll("q"), api.Policy{Name: "p", Terms: make([]api.Term, 65)}), api.ErrOrder},
		"too many terms before the default":                {ofTerms(0, make([]api.Term, 65)...), api.ErrTooLong},
		"a term before the default":                        {ofTerms(0, term("", 1)), api.ErrInvalid},
		"a term's name before its matches":                 {ofTerms(1, term("", 1, manyMatches...)), api.ErrInvalid},
		"a term that exists before its matches":            {ofTerms(1, term("a", 1), term("a", 1, manyMatches...)), api.ErrExists},
		"a term's matches before the next term's name":     {ofTerms(1, term("a", 1, manyMatches...), term("a", 1)), api.ErrTooLong},
		"a term's match before its verdict":                {ofTerms(1, term("a", 0, api.Match{Kind: api.MatchProtocol})), api.ErrRange},
		"a term's verdict before the next term's name":     {ofTerms(1, term("a", 0), term("a", 1)), api.ErrKind},
		"a match before too many actions":                  {ofTerms(1, api.Term{Name: "a", Matches: []api.Match{{Kind: api.MatchProtocol}}, Actions: make([]api.Action, 65)}), api.ErrRange},
		"too many matches before an action":                {ofTerms(1, api.Term{Name: "a", Matches: manyMatches, Actions: make([]api.Action, 1)}), api.ErrTooLong},
		"an action before the verdict":                     {ofTerms(1, api.Term{Name: "a", Actions: []api.Action{{Kind: api.SetNextHop}}}), api.ErrRange},
		"two bad matches":                                  {withMatches(api.Match{Kind: api.MatchPathList, Name: "x"}, api.Match{}), api.ErrNotFound},
		"two bad actions":                                  {withActions(api.Action{Kind: api.SetTag, AS: 1}, api.Action{}), api.ErrInvalid},
		"a match of a list that is missing in a valid set": {ofTerms(1, term("a", 1, api.Match{Kind: api.MatchPathList, Name: "a"})), api.ErrNotFound},
	} {
		agreeCheck(t, what, c.s, c.want)
	}
}

// P20.1
func TestCheckAny(t *testing.T) {
	r := rand.New(rand.NewPCG(20, 1))
	found := map[api.Errno]int{}
	for range 20000 {
		s := anySet(r)
		if e := policy.Check(s); e != api.OK || checked(s) != api.OK {
			t.Fatalf("Check(%+v) = %v", s, e)
		}
		for range 1 + r.IntN(3) {
			s = damaged(r, s)
			want := checked(s)
			found[want]++
			if e := policy.Check(s); e != want {
				t.Fatalf("Check(%+v) = %v instead of %v", s, e, want)
			}
		}
	}
	for _, e := range []api.Errno{api.OK, api.ErrTooLong, api.ErrInvalid, api.ErrOrder, api.ErrRange, api.ErrSyntax, api.ErrExists, api.ErrKind, api.ErrNotFound} {
		if found[e] < 100 {
			t.Errorf("only %d sets with %v", found[e], e)
		}
	}
}
