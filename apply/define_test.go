package apply_test

import (
	"reflect"
	"slices"
	"testing"

	"routing/api"
	"routing/community"
	"routing/plist"
	"routing/policy"
	"routing/prefix"
	"routing/regex"
)

// The limits of the document.
const (
	maxNumber  = 4294967295
	maxCost    = 16777216
	maxEntries = 2000
)

// lists are the lists of the sets of these tests.
const lists = `prefix-list all
permit 0.0.0.0/0 0-32
prefix-list none
prefix-list own
deny 10.1.0.0/16 16-24
permit 10.0.0.0/8 8-24
path-list from
deny 65002 .*
permit (65001|65002) .*
path-list none
path-list through
permit .* [65002-65003] .*
community-list blue
deny 65000:1
permit 65000:*
community-list none
community-list well
permit *:65281
`

// parsed is the set of a text.
func parsed(t *testing.T, text string) api.PolicySet {
	t.Helper()
	s, line, e := policy.Parse(text)
	if e != api.OK {
		t.Fatal("line", line, e)
	}
	return s
}

// checked is the promise of Check.
func checked(r api.Subject) api.Errno {
	switch {
	case prefix.Text(r.Prefix) == "":
		return api.ErrInvalid
	case r.Protocol < 1 || r.Protocol > 7:
		return api.ErrRange
	case len(r.Path) > maxEntries:
		return api.ErrTooLong
	case slices.ContainsFunc(r.Path, func(as int) bool { return as <= 0 || as > maxNumber }):
		return api.ErrRange
	case community.Check(r.Communities) != api.OK:
		return community.Check(r.Communities)
	}
	for _, x := range []struct{ n, most int }{{r.Pref, maxNumber}, {r.MED, maxNumber}, {r.Metric, maxCost}, {r.Tag, maxNumber}} {
		if x.n < 0 || x.n > x.most {
			return api.ErrRange
		}
	}
	return api.OK
}

// matchError and actionError are the errors of policy.Check for a match or an action of a valid set.
func matchError(s api.PolicySet, m api.Match) api.Errno {
	return termError(s, api.Term{Matches: []api.Match{m}})
}

func actionError(a api.Action) api.Errno {
	return termError(api.PolicySet{}, api.Term{Actions: []api.Action{a}})
}

func termError(s api.PolicySet, t api.Term) api.Errno {
	t.Name, t.Verdict = "t", api.Reject
	s.Policies = []api.Policy{{Name: "p", Terms: []api.Term{t}, Default: api.Reject}}
	return policy.Check(s)
}

// applies is the definition of a valid match that holds.
func applies(s api.PolicySet, m api.Match, r api.Subject) bool {
	holds := false
	switch m.Kind {
	case api.MatchPrefixList:
		for _, l := range s.Prefixes {
			if l.Name == m.Name {
				holds = plist.Permits(l.Rules, r.Prefix)
			}
		}
	case api.MatchPathList:
		for _, l := range s.Paths {
			if l.Name == m.Name {
				holds = permitted(l.Rules, r.Path)
			}
		}
	case api.MatchCommunityList:
		for _, l := range s.Communities {
			if l.Name == m.Name {
				holds = community.Permits(l.Rules, r.Communities)
			}
		}
	case api.MatchProtocol:
		holds = m.N == r.Protocol
	case api.MatchTag:
		holds = m.N == r.Tag
	case api.MatchMetric:
		holds = r.Metric <= m.N
	case api.MatchNextHop:
		size := uint64(1) << (32 - m.Prefix.Len)
		holds = uint64(r.NextHop)/size == uint64(m.Prefix.Addr)/size
	case api.MatchPathLength:
		holds = len(r.Path) <= m.N
	}
	return holds == !m.Not
}

func permitted(rules []api.PathRule, path []int) bool {
	for _, r := range rules {
		if pattern, _ := regex.Parse(r.Pattern); regex.Match(pattern, path) {
			return r.Permit
		}
	}
	return false
}

// acted is the promise of Act.
func acted(l []api.Action, r api.Subject) api.Subject {
	for _, a := range l {
		if actionError(a) != api.OK {
			continue
		}
		switch a.Kind {
		case api.SetPref:
			r.Pref = a.N
		case api.SetMED:
			r.MED = a.N
		case api.SetMetric:
			r.Metric = a.N
		case api.SetTag:
			r.Tag = a.N
		case api.SetNextHop:
			r.NextHop = a.Addr
		case api.AddCommunity:
			r.Communities = community.Add(r.Communities, a.Community)
		case api.DeleteCommunity:
			r.Communities = community.Drop(r.Communities, a.Community)
		case api.Prepend:
			path := slices.Clone(r.Path)
			for range a.N {
				path = slices.Insert(path, 0, a.AS)
			}
			if len(path) <= maxEntries {
				r.Path = path
			}
		}
	}
	return r
}

// evaluated is the definition of the evaluation of a policy of a valid set: the terms that hold, and the verdict.
func evaluated(s api.PolicySet, p api.Policy, r api.Subject) ([]int, api.Verdict) {
	var terms []int
	var kept []api.Action
	decision := p.Default
	for i := 0; i < len(p.Terms) && (i == 0 || len(terms) == 0 || p.Terms[terms[len(terms)-1]].Verdict == api.NextTerm); i++ {
		holds := true
		for _, m := range p.Terms[i].Matches {
			holds = holds && applies(s, m, r)
		}
		if holds {
			terms = append(terms, i)
			kept = slices.Concat(kept, p.Terms[i].Actions)
			if p.Terms[i].Verdict != api.NextTerm {
				decision = p.Terms[i].Verdict
			}
		}
	}
	if decision == api.Reject {
		return terms, api.Verdict{}
	}
	return terms, api.Verdict{Accept: true, Route: acted(kept, r)}
}

// run is the promise of Run and Terms.
func run(s api.PolicySet, name string, r api.Subject) ([]int, api.Verdict, api.Errno) {
	if e := policy.Check(s); e != api.OK {
		return nil, api.Verdict{}, e
	}
	for _, p := range s.Policies {
		if p.Name != name {
			continue
		}
		if e := checked(r); e != api.OK {
			return nil, api.Verdict{}, e
		}
		terms, v := evaluated(s, p, r)
		return terms, v, api.OK
	}
	return nil, api.Verdict{}, api.ErrNotFound
}

// copied returns a subject that shares no memory with r, and whose empty lists are nil.
func copied(r api.Subject) api.Subject {
	r.Path = append([]int(nil), r.Path...)
	r.Communities = append([]uint32(nil), r.Communities...)
	return r
}

// equal is the promise of Same.
func equal(a, b api.Subject) bool { return reflect.DeepEqual(copied(a), copied(b)) }

func equalVerdict(a, b api.Verdict) bool { return a.Accept == b.Accept && equal(a.Route, b.Route) }
