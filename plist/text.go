package plist

import (
	"strconv"
	"strings"

	"routing/api"
	"routing/prefix"
)

// Text returns the text form of a rule.
func Text(r api.PrefixRule) (string, api.Errno) {
	if err := Check(r); err != api.OK {
		return "", err
	}
	text := "deny"
	if r.Permit {
		text = "permit"
	}
	text += " " + prefix.Text(r.Prefix)
	if r != exact(r.Permit, r.Prefix) {
		text += " " + strconv.Itoa(r.Min) + "-" + strconv.Itoa(r.Max)
	}
	return text, api.OK
}

// Parse parses the text form.
func Parse(s string) (api.PrefixRule, api.Errno) {
	r := candidate(s)
	if text, err := Text(r); err != api.OK || text != s {
		return api.PrefixRule{}, api.ErrSyntax
	}
	return r, api.OK
}

// candidate returns the only rule that can have the text s. Parts of s that cannot be read need no attention, since the
// text of the rule then differs from s.
func candidate(s string) api.PrefixRule {
	word, rest, _ := strings.Cut(s, " ")
	first, second, ranged := strings.Cut(rest, " ")
	p, _ := prefix.Parse(first)
	r := exact(word == "permit", p)
	if ranged {
		low, high, _ := strings.Cut(second, "-")
		r.Min, _ = strconv.Atoi(low)
		r.Max, _ = strconv.Atoi(high)
	}
	return r
}
