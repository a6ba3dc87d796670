package policy

import (
	"strings"

	"routing/api"
	"routing/community"
	"routing/field"
	"routing/plist"
	"routing/prefix"
)

// Print returns the text of a policy set.
func Print(s api.PolicySet) (string, api.Errno) {
	if err := Check(s); err != api.OK {
		return "", err
	}
	var w writer
	for _, l := range s.Prefixes {
		w.prefixList(l)
	}
	for _, l := range s.Paths {
		w.pathList(l)
	}
	for _, l := range s.Communities {
		w.communityList(l)
	}
	for _, p := range s.Policies {
		w.policy(p)
	}
	if w.text.Len() > api.MaxText {
		return "", api.ErrTooLong
	}
	return w.text.String(), api.OK
}

// writer writes the lines of a text.
type writer struct {
	text strings.Builder
}

func (w *writer) line(words ...string) {
	w.text.WriteString(strings.Join(words, " ") + "\n")
}

func (w *writer) prefixList(l api.PrefixList) {
	w.line("prefix-list", l.Name)
	for _, r := range l.Rules {
		text, _ := plist.Text(r)
		w.line(text)
	}
}

func (w *writer) pathList(l api.PathList) {
	w.line("path-list", l.Name)
	for _, r := range l.Rules {
		w.line(permission(r.Permit), r.Pattern)
	}
}

func (w *writer) communityList(l api.CommunityList) {
	w.line("community-list", l.Name)
	for _, r := range l.Rules {
		w.line(permission(r.Permit), partText(r.High)+":"+partText(r.Low))
	}
}

func (w *writer) policy(p api.Policy) {
	w.line("policy", p.Name)
	for _, t := range p.Terms {
		w.line("term", t.Name)
		for _, m := range t.Matches {
			w.match(m)
		}
		for _, a := range t.Actions {
			w.action(a)
		}
		w.line(verdicts[t.Verdict])
	}
	w.line("default", verdicts[p.Default])
}

func (w *writer) match(m api.Match) {
	f := matchForms[m.Kind]
	words := []string{"match"}
	if m.Not {
		words = append(words, "not")
	}
	words = append(words, f.word)
	switch f.takes {
	case takesList:
		words = append(words, m.Name)
	case takesNumber:
		words = append(words, field.Decimal(m.N))
	case takesPrefix:
		words = append(words, prefix.Text(m.Prefix))
	}
	w.line(words...)
}

func (w *writer) action(a api.Action) {
	f := actionForms[a.Kind]
	words := []string{"set", f.word}
	switch f.takes {
	case takesNumber:
		words = append(words, field.Decimal(a.N))
	case takesAddress:
		words = append(words, prefix.Addr(a.Addr))
	case takesCommunity:
		words = append(words, community.Text(a.Community))
	case takesCount:
		words = append(words, field.Decimal(a.AS), field.Decimal(a.N))
	}
	w.line(words...)
}

// permission returns the word with which a rule begins.
func permission(permit bool) string {
	if permit {
		return "permit"
	}
	return "deny"
}

// partText returns the text of a part of a rule of a community list.
func partText(part int) string {
	if part == anything {
		return "*"
	}
	return field.Decimal(part)
}
