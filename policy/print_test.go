package policy_test

import (
	"math"
	"math/rand/v2"
	"slices"
	"strings"
	"testing"

	"routing/api"
	"routing/policy"
)

// agreeText fails unless a valid set has the text that the document promises, and is parsed from it.
func agreeText(t *testing.T, s api.PolicySet) {
	t.Helper()
	text, e := policy.Print(s)
	if e != api.OK || text != printed(s) {
		t.Fatalf("Print(%+v) = %q, %v", s, text, e)
	}
	if back, line, e := policy.Parse(text); e != api.OK || line != 0 || !equal(back, s) {
		t.Fatalf("Parse(%q) = %+v, %d, %v", text, back, line, e)
	}
}

// everyForm is a text with all forms of lines.
const everyForm = `prefix-list 0
prefix-list A
permit 10.0.0.0/8
deny 0.0.0.0/0 0-32
permit 10.0.0.0/8
path-list A
permit 65001 .*
deny ()
deny (1|2)+ [3-4]?
path-list a-b
community-list -
permit *:*
deny 0:0
permit 65535:*
deny *:65535
permit 65535:65281
community-list A
policy A
default accept
policy permit
term B
accept
term A
reject
term default
match prefix-list 0
match not prefix-list A
match path-list a-b
match not path-list A
match community-list -
match not community-list A
match protocol 1
match not protocol 7
match tag 0
match not tag 4294967295
match metric 0
match not metric 16777216
match next-hop 0.0.0.0/0
match not next-hop 10.0.0.0/8
match path-length 0
match not path-length 2000
match tag 0
set pref 0
set pref 4294967295
set med 0
set med 4294967295
set metric 0
set metric 16777216
set tag 0
set tag 4294967295
set next-hop 0.0.0.1
set next-hop 255.255.255.255
set add 0:0
set add no-export
set add 65000:100
set delete 65535:65535
set delete graceful-shutdown
set prepend 1 1
set prepend 4294967295 16
next
default reject
policy term
term only
match tag 1
accept
default accept
`

// everyFormSet returns the set with that text.
func everyFormSet() api.PolicySet {
	return api.PolicySet{
		Prefixes: []api.PrefixList{{Name: "0"}, {Name: "A", Rules: []api.PrefixRule{
			{Permit: true, Prefix: api.Prefix{Addr: 0x0a000000, Len: 8}, Min: 8, Max: 8}, {Max: 32}, {Permit: true, Prefix: api.Prefix{Addr: 0x0a000000, Len: 8}, Min: 8, Max: 8},
		}}},
		Paths: []api.PathList{{Name: "A", Rules: []api.PathRule{{Permit: true, Pattern: "65001 .*"}, {Pattern: "()"}, {Pattern: "(1|2)+ [3-4]?"}}}, {Name: "a-b"}},
		Communities: []api.CommunityList{{Name: "-", Rules: []api.CommunityRule{
			{Permit: true, High: -1, Low: -1}, {}, {Permit: true, High: 65535, Low: -1}, {High: -1, Low: 65535}, {Permit: true, High: 65535, Low: 65281},
		}}, {Name: "A"}},
		Policies: []api.Policy{{Name: "A", Default: api.Accept}, {Name: "permit", Terms: []api.Term{
			{Name: "B", Verdict: api.Accept}, {Name: "A", Verdict: api.Reject}, {Name: "default", Verdict: api.NextTerm, Matches: []api.Match{
				{Kind: api.MatchPrefixList, Name: "0"}, {Kind: api.MatchPrefixList, Name: "A", Not: true}, {Kind: api.MatchPathList, Name: "a-b"}, {Kind: api.MatchPathList, Name: "A", Not: true},
				{Kind: api.MatchCommunityList, Name: "-"}, {Kind: api.MatchCommunityList, Name: "A", Not: true}, {Kind: api.MatchProtocol, N: 1}, {Kind: api.MatchProtocol, N: 7, Not: true},
				{Kind: api.MatchTag}, {Kind: api.MatchTag, N: 4294967295, Not: true}, {Kind: api.MatchMetric}, {Kind: api.MatchMetric, N: 16777216, Not: true},
				{Kind: api.MatchNextHop}, {Kind: api.MatchNextHop, Prefix: api.Prefix{Addr: 0x0a000000, Len: 8}, Not: true}, {Kind: api.MatchPathLength}, {Kind: api.MatchPathLength, N: 2000, Not: true}, {Kind: api.MatchTag},
			}, Actions: []api.Action{
				{Kind: api.SetPref}, {Kind: api.SetPref, N: 4294967295}, {Kind: api.SetMED}, {Kind: api.SetMED, N: 4294967295}, {Kind: api.SetMetric}, {Kind: api.SetMetric, N: 16777216}, {Kind: api.SetTag}, {Kind: api.SetTag, N: 4294967295},
				{Kind: api.SetNextHop, Addr: 1}, {Kind: api.SetNextHop, Addr: math.MaxUint32}, {Kind: api.AddCommunity}, {Kind: api.AddCommunity, Community: api.NoExport}, {Kind: api.AddCommunity, Community: 4259840100},
				{Kind: api.DeleteCommunity, Community: math.MaxUint32}, {Kind: api.DeleteCommunity, Community: api.GracefulShutdown}, {Kind: api.Prepend, AS: 1, N: 1}, {Kind: api.Prepend, AS: 4294967295, N: 16},
			}},
		}, Default: api.Reject}, {Name: "term", Terms: []api.Term{{Name: "only", Matches: []api.Match{{Kind: api.MatchTag, N: 1}}, Verdict: api.Accept}}, Default: api.Accept}},
	}
}

// P20.2, P20.3, P20.6: the example, and all forms of lines.
func TestTexts(t *testing.T) {
	for text, s := range map[string]api.PolicySet{"": {}, example: exampleSet(), everyForm: everyFormSet(), "policy a\ndefault reject\n": ofPolicies(api.Policy{Name: "a", Default: api.Reject}), "community-list x\n": ofCommunities(communityList("x"))} {
		if got, e := policy.Print(s); e != api.OK || got != text {
			t.Errorf("Print of the set of %q: %q, %v", text, got, e)
		}
		if back, line, e := policy.Parse(text); e != api.OK || line != 0 || !equal(back, s) {
			t.Errorf("Parse(%q) = %+v, %d, %v", text, back, line, e)
		}
		agreeText(t, s)
	}
	if strings.Count(example, "\n") != 10 {
		t.Error("the lines of the example")
	}
}

// P20.2: the errors of Check come first.
func TestPrintErrors(t *testing.T) {
	long := longSet(maxText + 1)
	long.Policies[len(long.Policies)-1].Default = 0
	for i, s := range []api.PolicySet{
		long, ofPrefixes(prefixList("")), ofPaths(api.PathList{Name: "a", Rules: []api.PathRule{{}}}), ofCommunities(communityList("b"), communityList("a")), ofPolicies(make([]api.Policy, 65)...),
		ofPolicies(api.Policy{Name: "p"}), withMatches(api.Match{}), withMatches(api.Match{Kind: api.MatchPathList, Name: "b"}), withActions(api.Action{Kind: api.SetNextHop}), withTerms(acceptTerm("a"), acceptTerm("a")), withTerms(api.Term{Name: "t", Verdict: 4}),
	} {
		if text, e := policy.Print(s); text != "" || e == api.OK || e != checked(s) {
			t.Errorf("set %d: %q, %v", i, text, e)
		}
	}
}

// longSet returns a valid set with a text of so many bytes, from about 1300 on.
func longSet(length int) api.PolicySet {
	s := withTerms(numbered(maxList, acceptTerm)...)
	const line = "set next-hop 255.255.255.255\n"
	rest := length - len(printed(s))
	for i := range rest / len(line) {
		t := &s.Policies[0].Terms[i/maxList]
		t.Actions = append(t.Actions, api.Action{Kind: api.SetNextHop, Addr: math.MaxUint32})
	}
	s.Prefixes[0].Name += strings.Repeat("a", rest%len(line))
	return s
}

// P20.2, P20.3, P20.6: the longest texts.
func TestLongTexts(t *testing.T) {
	for length := maxText - 3; length <= maxText+3; length++ {
		s := longSet(length)
		text := printed(s)
		if len(text) != length || checked(s) != api.OK {
			t.Fatal("the set for", length, "bytes has", len(text), checked(s))
		}
		if length <= maxText {
			agreeText(t, s)
			continue
		}
		if got, e := policy.Print(s); got != "" || e != api.ErrTooLong {
			t.Errorf("Print of %d bytes: %d bytes, %v", length, len(got), e)
		}
		if back, line, e := policy.Parse(text); e != api.ErrTooLong || line != 0 || !equal(back, api.PolicySet{}) {
			t.Errorf("Parse of %d bytes: line %d, %v", length, line, e)
		}
	}
	var huge api.PolicySet
	for _, p := range numbered(maxList, acceptAll) {
		p.Terms = numbered(maxList, acceptTerm)
		for i := range p.Terms {
			p.Terms[i].Matches = slices.Repeat([]api.Match{{Kind: api.MatchTag, Not: true}}, maxList)
		}
		huge.Policies = append(huge.Policies, p)
	}
	if got, e := policy.Print(huge); got != "" || e != api.ErrTooLong {
		t.Error("Print of the longest text:", len(got), e)
	}
}

// P20.2, P20.6, P20.7
func TestAnyText(t *testing.T) {
	r := rand.New(rand.NewPCG(20, 2))
	for range 10000 {
		s := anySet(r)
		agreeText(t, s)
		bad := damaged(r, s)
		text, e := policy.Print(bad)
		if e != checked(bad) || e != api.OK && text != "" || e == api.OK && text != printed(bad) {
			t.Fatalf("Print(%+v) = %q, %v", bad, text, e)
		}
	}
}
