package policy_test

import (
	"fmt"
	"regexp"
	"strings"

	"routing/api"
	"routing/community"
	"routing/plist"
	"routing/prefix"
	"routing/regex"
)

// Each form of line has a letter. The letters of the lines of a text, and of the beginning of a text.
var (
	complete = regexp.MustCompile(`\A(Xx*)*(Yy*)*(Zz*)*(P(TM*S*V)*D)*\z`)
	partial  = regexp.MustCompile(`\A(Xx*)*(Yy*)*(Zz*)*(P(TM*S*V)*D)*(P(TM*S*V)*(TM*S*)?)?\z`)
)

// form is a form of line: its letter, its expression, and what it adds to a set, if the parts have valid texts.
type form struct {
	letter     string
	expression *regexp.Regexp
	add        func(s *api.PolicySet, parts []string) bool
}

func newForm(letter, expression string, add func(s *api.PolicySet, parts []string) bool) form {
	const word, number = `([^ \n]+)`, `(0|[1-9][0-9]{0,9})`
	expression = strings.NewReplacer("NAME", word, "WORD", word, "NUMBER", number, "PERMIT", "(permit|deny)", "ANY", `([^\n]*)`).Replace(expression)
	return form{letter, regexp.MustCompile(`\A` + expression + `\n\z`), add}
}

// decimal returns a number, and whether it is at most the greatest one of texts.
func decimal(s string) (int, bool) {
	n := 0
	_, e := fmt.Sscan(s, &n)
	return n, e == nil && n <= maxNumber
}

func part(s string) (int, bool) {
	if s == "*" {
		return -1, true
	}
	return decimal(s)
}

func end[T any](l []T) *T { return &l[len(l)-1] }

func lastTerm(s *api.PolicySet) *api.Term { return end(end(s.Policies).Terms) }

func addMatch(s *api.PolicySet, not string, m api.Match, ok bool) bool {
	m.Not = not != ""
	t := lastTerm(s)
	t.Matches = append(t.Matches, m)
	return ok
}

func addAction(s *api.PolicySet, a api.Action, ok bool) bool {
	t := lastTerm(s)
	t.Actions = append(t.Actions, a)
	return ok
}

// listForms are the forms of the lines of lists and of their rules.
func listForms() []form {
	return []form{
		newForm("X", "prefix-list NAME", func(s *api.PolicySet, w []string) bool {
			s.Prefixes = append(s.Prefixes, api.PrefixList{Name: w[1]})
			return true
		}),
		newForm("x", "PERMIT (WORD( WORD)?)", func(s *api.PolicySet, w []string) bool {
			r, e := plist.Parse(w[1] + " " + w[2])
			l := end(s.Prefixes)
			l.Rules = append(l.Rules, r)
			return e == api.OK
		}),
		newForm("Y", "path-list NAME", func(s *api.PolicySet, w []string) bool {
			s.Paths = append(s.Paths, api.PathList{Name: w[1]})
			return true
		}),
		newForm("y", "PERMIT ANY", func(s *api.PolicySet, w []string) bool {
			_, e := regex.Parse(w[2])
			l := end(s.Paths)
			l.Rules = append(l.Rules, api.PathRule{Permit: w[1] == "permit", Pattern: w[2]})
			return e == api.OK
		}),
		newForm("Z", "community-list NAME", func(s *api.PolicySet, w []string) bool {
			s.Communities = append(s.Communities, api.CommunityList{Name: w[1]})
			return true
		}),
		newForm("z", `PERMIT (\*|NUMBER):(\*|NUMBER)`, func(s *api.PolicySet, w []string) bool {
			high, ok := part(w[2])
			low, also := part(w[4])
			l := end(s.Communities)
			l.Rules = append(l.Rules, api.CommunityRule{Permit: w[1] == "permit", High: high, Low: low})
			return ok && also
		}),
	}
}

// policyForms are the forms of the lines of policies, other than matches and actions.
func policyForms() []form {
	return []form{
		newForm("P", "policy NAME", func(s *api.PolicySet, w []string) bool {
			s.Policies = append(s.Policies, api.Policy{Name: w[1]})
			return true
		}),
		newForm("T", "term NAME", func(s *api.PolicySet, w []string) bool {
			p := end(s.Policies)
			p.Terms = append(p.Terms, api.Term{Name: w[1]})
			return true
		}),
		newForm("V", "(accept|reject|next)", func(s *api.PolicySet, w []string) bool {
			lastTerm(s).Verdict = map[string]int{"accept": 1, "reject": 2, "next": 3}[w[1]]
			return true
		}),
		newForm("D", "default (accept|reject)", func(s *api.PolicySet, w []string) bool {
			end(s.Policies).Default = map[string]int{"accept": 1, "reject": 2}[w[1]]
			return true
		}),
	}
}

// matchForms and actionForms are the forms of the lines of matches and actions.
func matchForms() []form {
	return []form{
		newForm("M", "match (not )?(prefix|path|community)-list NAME", func(s *api.PolicySet, w []string) bool {
			return addMatch(s, w[1], api.Match{Kind: map[string]int{"prefix": 1, "path": 2, "community": 3}[w[2]], Name: w[3]}, true)
		}),
		newForm("M", "match (not )?(protocol|tag|metric|path-length) NUMBER", func(s *api.PolicySet, w []string) bool {
			n, ok := decimal(w[3])
			return addMatch(s, w[1], api.Match{Kind: map[string]int{"protocol": 4, "tag": 5, "metric": 6, "path-length": 8}[w[2]], N: n}, ok)
		}),
		newForm("M", "match (not )?next-hop WORD", func(s *api.PolicySet, w []string) bool {
			p, e := prefix.Parse(w[2])
			return addMatch(s, w[1], api.Match{Kind: 7, Prefix: p}, e == api.OK)
		}),
	}
}

func actionForms() []form {
	return []form{
		newForm("S", "set (pref|med|metric|tag) NUMBER", func(s *api.PolicySet, w []string) bool {
			n, ok := decimal(w[2])
			return addAction(s, api.Action{Kind: map[string]int{"pref": 1, "med": 2, "metric": 3, "tag": 4}[w[1]], N: n}, ok)
		}),
		newForm("S", "set next-hop WORD", func(s *api.PolicySet, w []string) bool {
			a, e := prefix.ParseAddr(w[1])
			return addAction(s, api.Action{Kind: 5, Addr: a}, e == api.OK)
		}),
		newForm("S", "set (add|delete) WORD", func(s *api.PolicySet, w []string) bool {
			c, e := community.Parse(w[2])
			return addAction(s, api.Action{Kind: map[string]int{"add": 6, "delete": 7}[w[1]], Community: c}, e == api.OK)
		}),
		newForm("S", "set prepend NUMBER NUMBER", func(s *api.PolicySet, w []string) bool {
			as, ok := decimal(w[1])
			n, also := decimal(w[2])
			return addAction(s, api.Action{Kind: 8, AS: as, N: n}, ok && also)
		}),
	}
}

var allForms = append(append(append(listForms(), policyForms()...), matchForms()...), actionForms()...)

// parsed is the promise of Parse: for each line, the set of the lines up to it is checked.
func parsed(text string) (api.PolicySet, int, api.Errno) {
	var s api.PolicySet
	if len(text) > maxText {
		return s, 0, api.ErrTooLong
	}
	letters := ""
	lines := strings.SplitAfter(text, "\n")
	if *end(lines) == "" {
		lines = lines[:len(lines)-1]
	}
	for i, line := range lines {
		more, ok := extended(&s, letters, line)
		if !ok {
			return api.PolicySet{}, i + 1, api.ErrSyntax
		}
		letters = more
		if e := checked(completed(s)); e != api.OK {
			return api.PolicySet{}, i + 1, e
		}
	}
	if !complete.MatchString(letters) {
		return api.PolicySet{}, len(lines) + 1, api.ErrTruncated
	}
	return s, 0, api.OK
}

// extended adds a line to a set, and returns the letters with that of the line, if it has a possible form.
func extended(s *api.PolicySet, letters, line string) (string, bool) {
	for _, f := range allForms {
		w := f.expression.FindStringSubmatch(line)
		if w != nil && partial.MatchString(letters+f.letter) {
			return letters + f.letter, f.add(s, w)
		}
	}
	return "", false
}

// completed returns a set with what may still follow in its last policy.
func completed(s api.PolicySet) api.PolicySet {
	s = copied(s)
	if len(s.Policies) == 0 {
		return s
	}
	p := end(s.Policies)
	p.Default = max(p.Default, 1)
	if len(p.Terms) > 0 {
		t := end(p.Terms)
		t.Verdict = max(t.Verdict, 1)
	}
	return s
}
