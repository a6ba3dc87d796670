package policy

import (
	"slices"

	"routing/api"
	"routing/plist"
	"routing/prefix"
	"routing/regex"
)

const (
	maxName  = 32        // the bytes of the longest names
	anything = -1        // stands for every part of a community in a rule
	maxPart  = 1<<16 - 1 // the greatest part of a community
)

func prefixListName(l api.PrefixList) string       { return l.Name }
func pathListName(l api.PathList) string           { return l.Name }
func communityListName(l api.CommunityList) string { return l.Name }
func policyName(p api.Policy) string               { return p.Name }

// checkEach checks the elements of a list of at most MaxList ones.
func checkEach[T any](list []T, check func(T) api.Errno) api.Errno {
	if len(list) > api.MaxList {
		return api.ErrTooLong
	}
	for _, element := range list {
		if err := check(element); err != api.OK {
			return err
		}
	}
	return api.OK
}

// checkNamed checks the elements of a list that ascends by name, each by itself after its name.
func checkNamed[T any](list []T, name func(T) string, check func(T) api.Errno) api.Errno {
	if len(list) > api.MaxList {
		return api.ErrTooLong
	}
	for i, element := range list {
		if err := checkLastName(list[:i+1], name); err != api.OK {
			return err
		}
		if err := check(element); err != api.OK {
			return err
		}
	}
	return api.OK
}

// checkLastName checks the name of the last element of a list that ascends by name.
func checkLastName[T any](list []T, name func(T) string) api.Errno {
	at := len(list) - 1
	if !isName(name(list[at])) {
		return api.ErrInvalid
	}
	if at > 0 && name(list[at]) <= name(list[at-1]) {
		return api.ErrOrder
	}
	return api.OK
}

// isName reports whether s consists of 1 to 32 letters, digits and hyphens.
func isName(s string) bool {
	if s == "" || len(s) > maxName {
		return false
	}
	for i := range len(s) {
		letter := s[i] >= 'a' && s[i] <= 'z' || s[i] >= 'A' && s[i] <= 'Z'
		digit := s[i] >= '0' && s[i] <= '9'
		if !letter && !digit && s[i] != '-' {
			return false
		}
	}
	return true
}

func checkPrefixList(l api.PrefixList) api.Errno { return checkEach(l.Rules, plist.Check) }

func checkPathList(l api.PathList) api.Errno { return checkEach(l.Rules, checkPathRule) }

func checkCommunityList(l api.CommunityList) api.Errno { return checkEach(l.Rules, checkCommunityRule) }

func checkPathRule(r api.PathRule) api.Errno {
	_, err := regex.Parse(r.Pattern)
	return err
}

func checkCommunityRule(r api.CommunityRule) api.Errno {
	if min(r.High, r.Low) < anything || max(r.High, r.Low) > maxPart {
		return api.ErrRange
	}
	return api.OK
}

// checkPolicy checks a policy of a set, whose lists are valid, after its name.
func checkPolicy(s api.PolicySet, p api.Policy) api.Errno {
	if len(p.Terms) > api.MaxList {
		return api.ErrTooLong
	}
	for i, t := range p.Terms {
		if err := checkLastTermName(p.Terms[:i+1]); err != api.OK {
			return err
		}
		if err := checkTerm(s, t); err != api.OK {
			return err
		}
	}
	if p.Default != api.Accept && p.Default != api.Reject {
		return api.ErrKind
	}
	return api.OK
}

// checkLastTermName checks the name of the last one of some terms.
func checkLastTermName(terms []api.Term) api.Errno {
	at := len(terms) - 1
	name := terms[at].Name
	if !isName(name) {
		return api.ErrInvalid
	}
	if slices.ContainsFunc(terms[:at], func(t api.Term) bool { return t.Name == name }) {
		return api.ErrExists
	}
	return api.OK
}

// checkTerm checks a term after its name.
func checkTerm(s api.PolicySet, t api.Term) api.Errno {
	err := checkEach(t.Matches, func(m api.Match) api.Errno { return checkMatch(s, m) })
	if err != api.OK {
		return err
	}
	if err := checkEach(t.Actions, checkAction); err != api.OK {
		return err
	}
	if t.Verdict != api.Accept && t.Verdict != api.Reject && t.Verdict != api.NextTerm {
		return api.ErrKind
	}
	return api.OK
}

func checkMatch(s api.PolicySet, m api.Match) api.Errno {
	if !matchForms.has(m.Kind) {
		return api.ErrKind
	}
	f := matchForms[m.Kind]
	used := api.Match{Kind: m.Kind, Not: m.Not}
	err := api.OK
	switch f.takes {
	case takesList:
		used.Name = m.Name
		if !hasList(s, m.Kind, m.Name) {
			err = api.ErrNotFound
		}
	case takesNumber:
		used.N = m.N
		if !f.allows(m.N) {
			err = api.ErrRange
		}
	case takesPrefix:
		used.Prefix = m.Prefix
		if !prefix.Valid(m.Prefix) {
			err = api.ErrInvalid
		}
	}
	if m != used {
		return api.ErrInvalid
	}
	return err
}

// hasList reports whether a set has a list for a kind of matches with a name.
func hasList(s api.PolicySet, kind int, name string) bool {
	switch kind {
	case api.MatchPrefixList:
		return hasName(s.Prefixes, prefixListName, name)
	case api.MatchPathList:
		return hasName(s.Paths, pathListName, name)
	}
	return hasName(s.Communities, communityListName, name)
}

func hasName[T any](list []T, name func(T) string, wanted string) bool {
	return slices.ContainsFunc(list, func(element T) bool { return name(element) == wanted })
}

func checkAction(a api.Action) api.Errno {
	if !actionForms.has(a.Kind) {
		return api.ErrKind
	}
	f := actionForms[a.Kind]
	used := api.Action{Kind: a.Kind}
	fits := true
	switch f.takes {
	case takesNumber:
		used.N = a.N
		fits = f.allows(a.N)
	case takesAddress:
		used.Addr = a.Addr
		fits = a.Addr != 0
	case takesCommunity:
		used.Community = a.Community
	case takesCount:
		used.AS, used.N = a.AS, a.N
		fits = a.AS >= 1 && a.AS <= api.MaxAS && f.allows(a.N)
	}
	if a != used {
		return api.ErrInvalid
	}
	if !fits {
		return api.ErrRange
	}
	return api.OK
}
