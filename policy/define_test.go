package policy_test

import (
	"fmt"
	"reflect"
	"regexp"
	"slices"
	"strings"

	"routing/api"
	"routing/community"
	"routing/plist"
	"routing/prefix"
	"routing/regex"
)

// The limits of the document.
const (
	maxList   = 64
	maxText   = 65536
	maxNumber = 4294967295
)

// example is the first example of the document.
const example = `prefix-list own
permit 10.0.0.0/8 8-24
community-list blue
permit 65000:*
policy import
term first
match not prefix-list own
set pref 200
accept
default reject
`

// exampleSet is the set with that text.
func exampleSet() api.PolicySet {
	return api.PolicySet{
		Prefixes:    []api.PrefixList{{Name: "own", Rules: []api.PrefixRule{{Permit: true, Prefix: api.Prefix{Addr: 0x0a000000, Len: 8}, Min: 8, Max: 24}}}},
		Communities: []api.CommunityList{{Name: "blue", Rules: []api.CommunityRule{{Permit: true, High: 65000, Low: -1}}}},
		Policies: []api.Policy{{Name: "import", Terms: []api.Term{{
			Name: "first", Matches: []api.Match{{Kind: api.MatchPrefixList, Name: "own", Not: true}}, Actions: []api.Action{{Kind: api.SetPref, N: 200}}, Verdict: api.Accept,
		}}, Default: api.Reject}},
	}
}

// mapped returns the results of a function for the elements of a list, and nil for an empty list.
func mapped[T, U any](list []T, f func(T) U) []U {
	var l []U
	for _, x := range list {
		l = append(l, f(x))
	}
	return l
}

func itself[T any](x T) T { return x }

// copied returns a set that shares no memory with s, and whose empty lists are nil.
func copied(s api.PolicySet) api.PolicySet {
	return api.PolicySet{
		Prefixes: mapped(s.Prefixes, func(l api.PrefixList) api.PrefixList {
			return api.PrefixList{Name: l.Name, Rules: mapped(l.Rules, itself)}
		}),
		Paths: mapped(s.Paths, func(l api.PathList) api.PathList { return api.PathList{Name: l.Name, Rules: mapped(l.Rules, itself)} }),
		Communities: mapped(s.Communities, func(l api.CommunityList) api.CommunityList {
			return api.CommunityList{Name: l.Name, Rules: mapped(l.Rules, itself)}
		}),
		Policies: mapped(s.Policies, copiedPolicy),
	}
}

func copiedPolicy(p api.Policy) api.Policy {
	p.Terms = mapped(p.Terms, func(t api.Term) api.Term {
		t.Matches, t.Actions = mapped(t.Matches, itself), mapped(t.Actions, itself)
		return t
	})
	return p
}

// equal is the promise of Same.
func equal(a, b api.PolicySet) bool { return reflect.DeepEqual(copied(a), copied(b)) }

func equalPolicy(a, b api.Policy) bool { return reflect.DeepEqual(copiedPolicy(a), copiedPolicy(b)) }

var names = regexp.MustCompile(`\A[A-Za-z0-9-]{1,32}\z`)

// errors are the errors that Check finds, in their order.
type errors []api.Errno

func (l *errors) report(e api.Errno, bad bool) {
	if bad {
		*l = append(*l, e)
	}
}

// checked is the promise of Check.
func checked(s api.PolicySet) api.Errno {
	var found errors
	before := ""
	named := func(i int, name string, elements int) {
		found.report(api.ErrInvalid, !names.MatchString(name))
		found.report(api.ErrOrder, i > 0 && name <= before)
		found.report(api.ErrTooLong, elements > maxList)
		before = name
	}
	found.report(api.ErrTooLong, len(s.Prefixes) > maxList)
	for i, l := range s.Prefixes {
		named(i, l.Name, len(l.Rules))
		for _, r := range l.Rules {
			found.report(plist.Check(r), plist.Check(r) != api.OK)
		}
	}
	found.report(api.ErrTooLong, len(s.Paths) > maxList)
	for i, l := range s.Paths {
		named(i, l.Name, len(l.Rules))
		for _, r := range l.Rules {
			_, e := regex.Parse(r.Pattern)
			found.report(e, e != api.OK)
		}
	}
	found.report(api.ErrTooLong, len(s.Communities) > maxList)
	for i, l := range s.Communities {
		named(i, l.Name, len(l.Rules))
		for _, r := range l.Rules {
			found.report(api.ErrRange, r.High < -1 || r.High > 65535 || r.Low < -1 || r.Low > 65535)
		}
	}
	found.report(api.ErrTooLong, len(s.Policies) > maxList)
	for i, p := range s.Policies {
		named(i, p.Name, len(p.Terms))
		for j, t := range p.Terms {
			found.term(s, t, p.Terms[:j])
		}
		found.report(api.ErrKind, p.Default != 1 && p.Default != 2)
	}
	return append(found, api.OK)[0]
}

func (l *errors) term(s api.PolicySet, t api.Term, earlier []api.Term) {
	l.report(api.ErrInvalid, !names.MatchString(t.Name))
	for _, other := range earlier {
		l.report(api.ErrExists, other.Name == t.Name)
	}
	l.report(api.ErrTooLong, len(t.Matches) > maxList)
	for _, m := range t.Matches {
		l.match(s, m)
	}
	l.report(api.ErrTooLong, len(t.Actions) > maxList)
	for _, a := range t.Actions {
		l.action(a)
	}
	l.report(api.ErrKind, t.Verdict < 1 || t.Verdict > 3)
}

func (l *errors) match(s api.PolicySet, m api.Match) {
	field := map[int]string{1: "Name", 2: "Name", 3: "Name", 4: "N", 5: "N", 6: "N", 7: "Prefix", 8: "N"}[m.Kind]
	lists := map[int][]string{
		1: mapped(s.Prefixes, func(l api.PrefixList) string { return l.Name }),
		2: mapped(s.Paths, func(l api.PathList) string { return l.Name }),
		3: mapped(s.Communities, func(l api.CommunityList) string { return l.Name }),
	}[m.Kind]
	limits := map[int][2]int{4: {1, 7}, 5: {0, maxNumber}, 6: {0, 1 << 24}, 8: {0, 2000}}[m.Kind]
	l.report(api.ErrKind, field == "")
	l.report(api.ErrInvalid, field != "Name" && m.Name != "" || field != "N" && m.N != 0 || field != "Prefix" && m.Prefix != api.Prefix{})
	l.report(api.ErrNotFound, field == "Name" && !slices.Contains(lists, m.Name))
	l.report(api.ErrRange, field == "N" && (m.N < limits[0] || m.N > limits[1]))
	l.report(api.ErrInvalid, field == "Prefix" && prefix.Text(m.Prefix) == "")
}

func (l *errors) action(a api.Action) {
	fields := map[int]string{1: "N", 2: "N", 3: "N", 4: "N", 5: "Addr", 6: "Community", 7: "Community", 8: "AS and N"}[a.Kind]
	limits := map[int][2]int{1: {0, maxNumber}, 2: {0, maxNumber}, 3: {0, 1 << 24}, 4: {0, maxNumber}, 8: {1, 16}}[a.Kind]
	unused := func(field string, zero bool) bool { return !strings.Contains(fields, field) && !zero }
	l.report(api.ErrKind, fields == "")
	l.report(api.ErrInvalid, unused("N", a.N == 0) || unused("AS", a.AS == 0) || unused("Community", a.Community == 0) || unused("Addr", a.Addr == 0))
	l.report(api.ErrRange, strings.Contains(fields, "N") && (a.N < limits[0] || a.N > limits[1]))
	l.report(api.ErrRange, fields == "Addr" && a.Addr == 0 || fields == "AS and N" && (a.AS < 1 || a.AS > maxNumber))
}

// printed is the definition of the text of a valid set.
func printed(s api.PolicySet) string {
	var b strings.Builder
	permission := map[bool]string{true: "permit", false: "deny"}
	part := func(n int) string { return strings.Replace(fmt.Sprint(n), "-1", "*", 1) }
	for _, l := range s.Prefixes {
		fmt.Fprintf(&b, "prefix-list %s\n", l.Name)
		for _, r := range l.Rules {
			text, _ := plist.Text(r)
			fmt.Fprintln(&b, text)
		}
	}
	for _, l := range s.Paths {
		fmt.Fprintf(&b, "path-list %s\n", l.Name)
		for _, r := range l.Rules {
			fmt.Fprintln(&b, permission[r.Permit], r.Pattern)
		}
	}
	for _, l := range s.Communities {
		fmt.Fprintf(&b, "community-list %s\n", l.Name)
		for _, r := range l.Rules {
			fmt.Fprintf(&b, "%s %s:%s\n", permission[r.Permit], part(r.High), part(r.Low))
		}
	}
	for _, p := range s.Policies {
		fmt.Fprintf(&b, "policy %s\n", p.Name)
		for _, t := range p.Terms {
			fmt.Fprintf(&b, "term %s\n", t.Name)
			for _, m := range t.Matches {
				fmt.Fprintf(&b, "match %s%s\n", map[bool]string{true: "not ", false: ""}[m.Not], printedMatch(m))
			}
			for _, a := range t.Actions {
				fmt.Fprintf(&b, "set %s\n", printedAction(a))
			}
			fmt.Fprintln(&b, map[int]string{1: "accept", 2: "reject", 3: "next"}[t.Verdict])
		}
		fmt.Fprintf(&b, "default %s\n", map[int]string{1: "accept", 2: "reject"}[p.Default])
	}
	return b.String()
}

func printedMatch(m api.Match) string {
	return map[int]string{
		1: "prefix-list " + m.Name, 2: "path-list " + m.Name, 3: "community-list " + m.Name, 4: fmt.Sprint("protocol ", m.N), 5: fmt.Sprint("tag ", m.N),
		6: fmt.Sprint("metric ", m.N), 7: "next-hop " + prefix.Text(m.Prefix), 8: fmt.Sprint("path-length ", m.N),
	}[m.Kind]
}

func printedAction(a api.Action) string {
	return map[int]string{
		1: fmt.Sprint("pref ", a.N), 2: fmt.Sprint("med ", a.N), 3: fmt.Sprint("metric ", a.N), 4: fmt.Sprint("tag ", a.N), 5: "next-hop " + prefix.Addr(a.Addr),
		6: "add " + community.Text(a.Community), 7: "delete " + community.Text(a.Community), 8: fmt.Sprintf("prepend %d %d", a.AS, a.N),
	}[a.Kind]
}
