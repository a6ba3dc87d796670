package policy

import (
	"strings"

	"routing/api"
	"routing/community"
	"routing/field"
	"routing/plist"
	"routing/prefix"
)

// Parse parses the text of a policy set; with an error it returns the number of the line.
func Parse(text string) (set api.PolicySet, line int, err api.Errno) {
	if len(text) > api.MaxText {
		return api.PolicySet{}, 0, api.ErrTooLong
	}
	var p parser
	defer func() {
		if failure, failed := recover().(api.Errno); failed {
			set, line, err = api.PolicySet{}, p.line, failure
		}
	}()
	p.read(text)
	return p.set, 0, api.OK
}

// The lists and the policies in the order in which they stand in a text.
const (
	prefixLists = iota
	pathLists
	communityLists
	policies
	sorts
)

// parser reads a text line by line; its methods panic with an error.
type parser struct {
	set  api.PolicySet
	line int    // the number of the line that is read
	next choice // the lines that may follow
}

// choice has for some forms of lines what reads the words of such a line, by the first one of them.
type choice map[string]func(words []string)

func (p *parser) read(text string) {
	p.next = p.beginnings(prefixLists)
	for line := range strings.Lines(text) {
		p.line++
		line, ended := strings.CutSuffix(line, "\n")
		words, err := field.Words(line)
		require(ended && err == api.OK && len(words) > 0)
		read, possible := p.next[words[0]]
		require(possible)
		read(words)
	}
	p.line++
	if len(p.set.Policies) > 0 && last(p.set.Policies).Default == 0 {
		panic(api.ErrTruncated)
	}
}

// beginnings returns the lines with which a list or a policy may begin, from a sort of them on.
func (p *parser) beginnings(sort int) choice {
	words := [sorts]string{"prefix-list", "path-list", "community-list", "policy"}
	reads := [sorts]func(words []string){p.prefixList, p.pathList, p.communityList, p.policy}
	c := choice{}
	for i := sort; i < sorts; i++ {
		c[words[i]] = reads[i]
	}
	return c
}

// rules returns the lines that may follow in a list of a sort: rules, and what may begin behind the list.
func (p *parser) rules(sort int, read func(words []string)) choice {
	c := p.beginnings(sort)
	c[permission(true)], c[permission(false)] = read, read
	return c
}

// terms returns the lines that may follow in a policy between its terms.
func (p *parser) terms() choice {
	return choice{"term": p.term, "default": p.otherwise}
}

func (p *parser) prefixList(words []string) {
	p.set.Prefixes = add(p.set.Prefixes, api.PrefixList{Name: only(words[1:])})
	demand(checkLastName(p.set.Prefixes, prefixListName))
	p.next = p.rules(prefixLists, p.prefixRule)
}

func (p *parser) prefixRule(words []string) {
	r := valid(plist.Parse(strings.Join(words, " ")))
	l := last(p.set.Prefixes)
	l.Rules = add(l.Rules, r)
}

func (p *parser) pathList(words []string) {
	p.set.Paths = add(p.set.Paths, api.PathList{Name: only(words[1:])})
	demand(checkLastName(p.set.Paths, pathListName))
	p.next = p.rules(pathLists, p.pathRule)
}

func (p *parser) pathRule(words []string) {
	r := api.PathRule{Permit: permits(words), Pattern: strings.Join(words[1:], " ")}
	demand(checkPathRule(r))
	l := last(p.set.Paths)
	l.Rules = add(l.Rules, r)
}

func (p *parser) communityList(words []string) {
	p.set.Communities = add(p.set.Communities, api.CommunityList{Name: only(words[1:])})
	demand(checkLastName(p.set.Communities, communityListName))
	p.next = p.rules(communityLists, p.communityRule)
}

func (p *parser) communityRule(words []string) {
	high, low, _ := strings.Cut(only(words[1:]), ":")
	r := api.CommunityRule{Permit: permits(words), High: part(high), Low: part(low)}
	l := last(p.set.Communities)
	l.Rules = add(l.Rules, r)
	demand(checkCommunityRule(r))
}

func (p *parser) policy(words []string) {
	p.set.Policies = add(p.set.Policies, api.Policy{Name: only(words[1:])})
	demand(checkLastName(p.set.Policies, policyName))
	p.next = p.terms()
}

func (p *parser) term(words []string) {
	l := last(p.set.Policies)
	l.Terms = add(l.Terms, api.Term{Name: only(words[1:])})
	demand(checkLastTermName(l.Terms))
	p.next = choice{"match": p.match, "set": p.action, "accept": p.decision, "reject": p.decision, "next": p.decision}
}

func (p *parser) match(words []string) {
	words = words[1:]
	not := len(words) > 0 && words[0] == "not"
	if not {
		words = words[1:]
	}
	require(len(words) == 2)
	m := api.Match{Kind: matchForms.kind(words[0]), Not: not}
	switch argument := words[1]; matchForms[m.Kind].takes {
	case takesList:
		m.Name = argument
	case takesNumber:
		m.N = number(argument)
	case takesPrefix:
		m.Prefix = valid(prefix.Parse(argument))
	default:
		fail()
	}
	t := p.lastTerm()
	t.Matches = add(t.Matches, m)
	demand(checkMatch(p.set, m))
}

func (p *parser) action(words []string) {
	require(len(words) > 1)
	a := api.Action{Kind: actionForms.kind(words[1])}
	switch arguments := words[2:]; actionForms[a.Kind].takes {
	case takesNumber:
		a.N = number(only(arguments))
	case takesAddress:
		a.Addr = valid(prefix.ParseAddr(only(arguments)))
	case takesCommunity:
		a.Community = valid(community.Parse(only(arguments)))
	case takesCount:
		require(len(arguments) == 2)
		a.AS, a.N = number(arguments[0]), number(arguments[1])
	default:
		fail()
	}
	t := p.lastTerm()
	t.Actions = add(t.Actions, a)
	demand(checkAction(a))
	delete(p.next, "match")
}

// decision reads the verdict of a term.
func (p *parser) decision(words []string) {
	require(len(words) == 1)
	p.lastTerm().Verdict = verdict(words[0])
	p.next = p.terms()
}

// otherwise reads the default of a policy.
func (p *parser) otherwise(words []string) {
	v := verdict(only(words[1:]))
	require(v == api.Accept || v == api.Reject)
	last(p.set.Policies).Default = v
	p.next = p.beginnings(policies)
}

// lastTerm returns the term that is read.
func (p *parser) lastTerm() *api.Term { return last(last(p.set.Policies).Terms) }

func last[T any](list []T) *T { return &list[len(list)-1] }

// add returns a list with one more element.
func add[T any](list []T, element T) []T {
	if len(list) >= api.MaxList {
		panic(api.ErrTooLong)
	}
	return append(list, element)
}

// demand reports the error of a check.
func demand(err api.Errno) {
	if err != api.OK {
		panic(err)
	}
}

// require reports that a line has none of the forms that are possible, unless ok.
func require(ok bool) {
	if !ok {
		fail()
	}
}

func fail() { panic(api.ErrSyntax) }

// valid returns what another package has read; what it could not read has no possible form, whatever its error.
func valid[T any](value T, err api.Errno) T {
	require(err == api.OK)
	return value
}

// only returns the only one of some words.
func only(words []string) string {
	require(len(words) == 1)
	return words[0]
}

func number(word string) int { return valid(field.Number(word, maxNumber)) }

// part reads a part of a rule of a community list.
func part(word string) int {
	if word == partText(anything) {
		return anything
	}
	return number(word)
}

// permits reports whether the words of a rule permit.
func permits(words []string) bool { return words[0] == permission(true) }
