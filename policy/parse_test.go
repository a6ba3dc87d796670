package policy_test

import (
	"math/rand/v2"
	"regexp"
	"slices"
	"strings"
	"testing"

	"routing/api"
	"routing/policy"
)

// agreeParse fails unless Parse returns the line and the error of the promise, and the set if there is no error.
func agreeParse(t *testing.T, text string) (int, api.Errno) {
	t.Helper()
	want, wantLine, wantError := parsed(text)
	s, line, e := policy.Parse(text)
	if line != wantLine || e != wantError || !equal(s, want) {
		t.Fatalf("Parse(%q) = %+v, %d, %v instead of %+v, %d, %v", text, s, line, e, want, wantLine, wantError)
	}
	return line, e
}

// fails fails unless Parse returns an error for a line.
func fails(t *testing.T, text string, wantLine int, want api.Errno) {
	t.Helper()
	if s, line, e := policy.Parse(text); line != wantLine || e != want || !equal(s, api.PolicySet{}) {
		t.Errorf("Parse(%q) = %+v, %d, %v instead of %d, %v", text, s, line, e, wantLine, want)
	}
	if _, line, e := parsed(text); line != wantLine || e != want {
		t.Errorf("the promise for %q: %d, %v instead of %d, %v", text, line, e, wantLine, want)
	}
}

// inTerm is the beginning of a text with a list of each sort that ends within a term.
const inTerm = "prefix-list a\npath-list b\ncommunity-list c\npolicy p\nterm t\n"

// P20.3: lines that have none of the forms, where one is possible.
func TestParseForms(t *testing.T) {
	for before, lines := range map[string][]string{
		"": {
			"", " ", "prefix-list", "prefix-list ", " prefix-list a", "prefix-list  a", "prefix-list a ", "prefix-list a b", "prefix-lists a", "Prefix-list a", "prefixlist a", "prefix list a", "prefix-list\ta", "path-list", "path-list a b", "community-list", "community-list a b", "policy", "policy a b", "policy  a",
			"#", "permit", "permit 10.0.0.0/8", "permit .", "permit 1:1", "deny *:*", "term a", "match tag 1", "set tag 1", "accept", "reject", "next", "default accept", "list a", "a", "not", "\r", "\x00",
		},
		"prefix-list a\n": {
			"", "permit", "permit ", "deny", "permit 10.0.0.1/8", "permit 10.0.0.0/8 8-8", "permit 10.0.0.0/8 7-9", "permit 10.0.0.0/8 8-33", "permit 10.0.0.0/8 9", "permit 10.0.0.0/8  8-9", "permit 10.0.0.0/8 8-9 ", " permit 10.0.0.0/8", "permit 10.0.0.0/8 8-9 1", "accept 10.0.0.0/8", "Permit 10.0.0.0/8", "permit 1", "permit 1:1", "permit *:*", "permit a", "term a", "accept", "default accept", "match tag 1",
		},
		"path-list a\n": {
			"", "permit", "permit ", "permit  1", "permit 1 ", "permit 1  2", "permit (1)", "permit [1-1]", "permit [2-1]", "permit 01", "permit 4294967296", "permit 1:1", "permit 10.0.0.0/8", "permit x", "permit1", "deny", "accept 1", "1", ".*", "prefix-list b", "prefix-list a", "term a", "default accept", "permit " + strings.Repeat("1 ", 63) + "1",
		},
		"community-list a\n": {
			"", "permit", "permit ", "permit 1", "permit :", "permit 1:", "permit :1", "permit *", "permit *:", "permit :*", "permit **", "permit *:**", "permit 1:1:1", "permit *:*:*", "permit 1 1", "permit 1:1 1", "permit 1 :1", "permit 1: 1", "permit 01:1", "permit 1:01", "permit -1:1", "permit 1:-1", "permit +1:1", "permit 1:+1", "permit 1:x", "permit no-export", "permit graceful-shutdown", "permit 1:1 ", "permit  1:1", "permit ?:1",
			"permit 4294967296:1", "permit 1:4294967296", "permit 18446744073709551617:1", "permit 99999999999999999999999:*", "permit 10.0.0.0/8", "permit .*", "deny", "prefix-list b", "path-list b", "term a", "accept",
		},
		"policy a\n": {
			"", "term", "term ", "term a b", "term  a", " term a", "terms a", "default", "default ", "default next", "default accept ", "default Accept", "default permit", "default  accept", "default accept reject", "default accept 1", "accept", "reject", "next", "match tag 1", "set tag 1", "policy b", "prefix-list a", "path-list a", "community-list a", "permit .", "permit 1:1",
		},
		inTerm: {
			"", "match", "match ", "match not", "match not ", "match tag", "match tag ", "match not tag", "match  tag 1", "match tag  1", "match tag 1 ", "match tag 1 1", "match not not tag 1", "match tag not 1", "match tag 1 not", "not match tag 1", "match Tag 1", "match tags 1", "match TAG 1", "match pref 1", "match med 1", "match add 1:1", "match prepend 1 1", "match not", "match prefix-list", "match prefix-list a b", "match prefix-list not a", "match prefix-list ", "match path-list", "match community-list", "match list a", "match 5 1",
			"match protocol -1", "match protocol 01", "match protocol +1", "match protocol x", "match protocol", "match protocol 4294967296", "match tag -1", "match tag 00", "match tag 4294967296", "match tag 18446744073709551616", "match tag 0x1", "match tag 1.0", "match metric 4294967296", "match metric -1", "match path-length 4294967296", "match path-length -1", "match path-length 1 1", "match length 1",
			"match next-hop", "match next-hop 10.0.0.0", "match next-hop 10.0.0.1/8", "match next-hop 10.0.0.0/33", "match next-hop 10.0.0.0/08", "match next-hop 10.0.0.0/8 9", "match next-hop 1", "match nexthop 10.0.0.0/8", "match next-hop 10.0.0.0/8 8-9",
			"set", "set ", "set tag", "set tag ", "set not tag 1", "set tag 1 1", "set  tag 1", "set tag  1", "set tag 1 ", "set Tag 1", "set path-length 1", "set protocol 1", "set prefix-list a", "set pref", "set pref -1", "set pref 01", "set pref 4294967296", "set preference 1", "set med 4294967296", "set med x", "set metric 4294967296", "set metric 1e3", "set tag 4294967296", "set 4 1",
			"set next-hop", "set next-hop 10.0.0.0/8", "set next-hop 10.0.0", "set next-hop 10.0.0.256", "set next-hop 1", "set next-hop 010.0.0.1", "set next-hop 10.0.0.1 10.0.0.2", "set nexthop 10.0.0.1",
			"set add", "set add 1", "set add 65536:1", "set add 1:65536", "set add 65535:65281", "set add 1:1 1:1", "set add *:1", "set add 1:*", "set add noexport", "set add no-export no-export", "set delete", "set delete 65535:0", "set delete *:*", "set remove 1:1", "set community 1:1",
			"set prepend", "set prepend 1", "set prepend 1 1 1", "set prepend 4294967296 1", "set prepend 1 4294967296", "set prepend -1 1", "set prepend 1 -1", "set prepend 01 1", "set prepend 1 01", "set prepend 1  1", "set prepend x 1", "set prepend 1 x",
			"accept ", " accept", "accept 1", "Accept", "accept reject", "reject 1", "next term", "next 1", "continue", "permit", "deny", "default accept", "default reject", "term u", "policy q", "prefix-list z", "path-list z", "community-list z", "permit 1:1", "permit .",
		},
		inTerm + "match tag 1\n": {"term u", "default accept", "policy q", "path-list z", "permit .", "match", "set", "match tag"},
		inTerm + "set tag 1\n":   {"match tag 1", "match not tag 1", "match prefix-list a", "match prefix-list z", "match", "term u", "default accept", "policy q", "set", "set tag"},
		inTerm + "accept\n":      {"match tag 1", "set tag 1", "accept", "reject", "next", "policy q", "prefix-list z", "permit .", "default", "term", "default next"},
		inTerm + "match tag 1\nset tag 1\nnext\nterm u\nset tag 1\n":             {"match tag 1", "term v", "default accept"},
		"policy a\ndefault accept\n":                                             {"default accept", "default reject", "term t", "accept", "match tag 1", "set tag 1", "prefix-list z", "path-list z", "community-list z", "permit .", "permit 1:1", "policy", "policy b c"},
		"prefix-list a\npermit 10.0.0.0/8\ncommunity-list a\npermit 1:1\n":       {"path-list z", "prefix-list z", "permit 10.0.0.0/8", "permit 1"},
		"prefix-list a\npermit 10.0.0.0/8\npath-list a\npermit 1\ndeny 1\n":      {"prefix-list z", "permit 10.0.0.0/8", "permit 1:1"},
		"prefix-list a\npath-list a\ncommunity-list a\npolicy a\nterm t\nnext\n": {"prefix-list z", "path-list z", "community-list z", "policy z", "permit .", "permit 1:1"},
	} {
		for _, line := range lines {
			n := strings.Count(before, "\n") + 1
			fails(t, before+line+"\n", n, api.ErrSyntax)
			fails(t, before+line+"\npolicy z\n\n", n, api.ErrSyntax)
			if line != "" {
				fails(t, before+line, n, api.ErrSyntax)
			}
		}
	}
}

// P20.3: the other errors of a line that has a possible form.
func TestParseErrors(t *testing.T) {
	for before, lines := range map[string]map[string]api.Errno{
		"": {
			"prefix-list a_": api.ErrInvalid, "path-list é": api.ErrInvalid, "community-list a.b": api.ErrInvalid, "policy a:b": api.ErrInvalid, "policy \x00": api.ErrInvalid, "policy a\r": api.ErrInvalid, "policy a\tb": api.ErrInvalid, "policy *": api.ErrInvalid, "prefix-list \xff": api.ErrInvalid,
			"policy " + strings.Repeat("a", 33): api.ErrInvalid, "path-list " + strings.Repeat("a", 1000): api.ErrInvalid,
		},
		"prefix-list b\n":                        {"prefix-list a": api.ErrOrder, "prefix-list b": api.ErrOrder, "prefix-list B": api.ErrOrder, "prefix-list a_": api.ErrInvalid},
		"prefix-list b\npermit 10.0.0.0/8\n":     {"prefix-list a": api.ErrOrder, "prefix-list a/": api.ErrInvalid},
		"path-list b\npermit .\n":                {"path-list a": api.ErrOrder, "path-list b": api.ErrOrder, "path-list a/": api.ErrInvalid},
		"community-list b\n":                     {"community-list a": api.ErrOrder, "community-list b": api.ErrOrder, "community-list a/": api.ErrInvalid},
		"policy b\ndefault accept\n":             {"policy a": api.ErrOrder, "policy b": api.ErrOrder, "policy a/": api.ErrInvalid},
		"policy b\nterm t\nnext\n":               {"term t": api.ErrExists, "term t_": api.ErrInvalid, "term " + strings.Repeat("t", 33): api.ErrInvalid},
		"policy b\nterm u\nnext\nterm t\nnext\n": {"term t": api.ErrExists, "term u": api.ErrExists},
		"community-list a\npermit 1:1\n": {
			"permit 65536:1": api.ErrRange, "permit 1:65536": api.ErrRange, "deny 65536:*": api.ErrRange, "permit *:65536": api.ErrRange, "permit 4294967295:1": api.ErrRange, "permit 1:4294967295": api.ErrRange, "deny 4294967295:4294967295": api.ErrRange,
		},
		inTerm: {
			"match prefix-list z": api.ErrNotFound, "match not prefix-list z": api.ErrNotFound, "match prefix-list b": api.ErrNotFound, "match path-list a": api.ErrNotFound, "match not path-list c": api.ErrNotFound, "match community-list b": api.ErrNotFound, "match community-list p": api.ErrNotFound,
			"match prefix-list a_": api.ErrNotFound, "match path-list " + strings.Repeat("b", 33): api.ErrNotFound, "match community-list \xff": api.ErrNotFound, "match prefix-list not": api.ErrNotFound, "match not prefix-list not": api.ErrNotFound,
			"match protocol 0": api.ErrRange, "match protocol 8": api.ErrRange, "match not protocol 8": api.ErrRange, "match protocol 4294967295": api.ErrRange, "match metric 16777217": api.ErrRange, "match metric 4294967295": api.ErrRange, "match path-length 2001": api.ErrRange, "match path-length 4294967295": api.ErrRange,
			"set metric 16777217": api.ErrRange, "set metric 4294967295": api.ErrRange, "set next-hop 0.0.0.0": api.ErrRange, "set prepend 0 1": api.ErrRange, "set prepend 1 0": api.ErrRange, "set prepend 1 17": api.ErrRange, "set prepend 0 0": api.ErrRange, "set prepend 4294967295 4294967295": api.ErrRange,
		},
	} {
		for line, want := range lines {
			n := strings.Count(before, "\n") + 1
			fails(t, before+line+"\n", n, want)
			fails(t, before+line+"\n\npolicy a_\n", n, want)
			fails(t, before+line, n, api.ErrSyntax)
		}
	}
}

// P20.3: the line that is missing at the end.
func TestParseTruncated(t *testing.T) {
	for text, line := range map[string]int{
		"policy a\n": 2, "policy a\nterm b\n": 3, "policy a\nterm b\nmatch tag 1\n": 4, "policy a\nterm b\nset tag 1\n": 4, "policy a\nterm b\nmatch tag 1\nset tag 1\n": 5, "policy a\nterm b\naccept\n": 4, "policy a\nterm b\nnext\nterm c\n": 5,
		"policy a\ndefault accept\npolicy b\n": 4, "policy a\ndefault accept\npolicy b\nterm c\nreject\n": 6, inTerm: 6,
	} {
		fails(t, text, line, api.ErrTruncated)
	}
	lines := strings.SplitAfter(example, "\n")
	for n := range lines {
		text := strings.Join(lines[:n], "")
		if n < 5 || n == 10 {
			if _, line, e := policy.Parse(text); line != 0 || e != api.OK {
				t.Errorf("Parse of %d lines: %d, %v", n, line, e)
			}
			continue
		}
		fails(t, text, n+1, api.ErrTruncated)
	}
	for n := range example {
		if n > 0 && example[n-1] != '\n' {
			fails(t, example[:n], strings.Count(example[:n], "\n")+1, api.ErrSyntax)
		}
	}
}

// P20.3: one element too many, which comes before its other errors but behind ErrSyntax.
func TestParseTooLong(t *testing.T) {
	many := func(line string) string {
		return strings.Join(mapped(numbered(maxList, itself[string]), func(name string) string { return strings.Replace(line, "NAME", name, 1) }), "")
	}
	for _, c := range []struct {
		before, line, after string
		tooLong, bad        []string
	}{
		{"", "prefix-list NAME\n", "", []string{"prefix-list z", "prefix-list a", "prefix-list n00000", "prefix-list a_"}, []string{"prefix-list", "prefix-list a b", "prefix-list  z"}},
		{"", "path-list NAME\n", "", []string{"path-list z", "path-list a", "path-list a_"}, []string{"path-list", "path-list z z", "prefix-list z"}},
		{"", "community-list NAME\npermit *:*\n", "", []string{"community-list z", "community-list a", "community-list a_"}, []string{"community-list", "community-list z z", "path-list z"}},
		{"", "policy NAME\ndefault accept\n", "", []string{"policy z", "policy a", "policy a_"}, []string{"policy", "policy z z", "path-list z", "default accept"}},
		{"prefix-list a\n", "permit 10.0.0.0/8\n", "", []string{"permit 10.0.0.0/8", "deny 0.0.0.0/0 1-2"}, []string{"permit 10.0.0.1/8", "permit 10.0.0.0/8 8-8", "permit"}},
		{"path-list a\n", "permit .\n", "", []string{"permit .", "deny 1|2"}, []string{"permit (1)", "permit", "permit x"}},
		{"community-list a\n", "permit 1:1\n", "", []string{"permit 1:1", "deny *:*", "permit 65536:1", "permit 4294967295:4294967295"}, []string{"permit 1", "permit 1:4294967296", "permit no-export"}},
		{"policy a\n", "term NAME\naccept\n", "default accept\n", []string{"term z", "term n00000", "term a_"}, []string{"term", "term a b", "match tag 1"}},
		{"policy a\nterm t\n", "match tag 1\n", "accept\ndefault accept\n", []string{"match tag 1", "match not tag 1", "match prefix-list z", "match protocol 0"}, []string{"match tag", "match tag 4294967296", "match", "default accept"}},
		{"policy a\nterm t\n", "set tag 1\n", "accept\ndefault accept\n", []string{"set tag 1", "set next-hop 0.0.0.0", "set prepend 1 0"}, []string{"set tag", "set add 1", "set", "match tag 1"}},
	} {
		text := c.before + many(c.line)
		if _, line, e := policy.Parse(text + c.after); line != 0 || e != api.OK {
			t.Errorf("64 times %q: %d, %v", c.line, line, e)
		}
		n := strings.Count(text, "\n") + 1
		for _, line := range c.tooLong {
			fails(t, text+line+"\n"+c.after, n, api.ErrTooLong)
			fails(t, text+line, n, api.ErrSyntax)
		}
		for _, line := range c.bad {
			fails(t, text+line+"\n"+c.after, n, api.ErrSyntax)
		}
	}
	// What is full in one list or term is not in the next one.
	for _, text := range []string{
		"prefix-list a\n" + many("permit 10.0.0.0/8\n") + "prefix-list b\npermit 10.0.0.0/8\n",
		"policy a\n" + many("term NAME\naccept\n") + "default accept\npolicy b\nterm t\naccept\ndefault accept\n",
		"policy a\nterm t\n" + many("match tag 1\n") + many("set tag 1\n") + "next\nterm u\nmatch tag 1\nset tag 1\nnext\ndefault accept\n",
		many("prefix-list NAME\n") + "path-list a\n",
	} {
		agreeText(t, func() api.PolicySet { s, _, _ := policy.Parse(text); return s }())
		if _, line, e := policy.Parse(text); line != 0 || e != api.OK {
			t.Errorf("%q: %d, %v", text, line, e)
		}
	}
}

// P20.3: texts with more bytes than the limit, whatever they contain.
func TestParseLimit(t *testing.T) {
	for _, text := range []string{strings.Repeat("\n", maxText+1), strings.Repeat("x", maxText+1), strings.Repeat("policy a\n", maxText), strings.Repeat("(", 1<<22)} {
		fails(t, text, 0, api.ErrTooLong)
	}
	fails(t, strings.Repeat("\n", maxText), 1, api.ErrSyntax)
	fails(t, strings.Repeat("x", maxText), 1, api.ErrSyntax)
	fails(t, "path-list a\npermit "+strings.Repeat("(", maxText-30)+"\n", 2, api.ErrSyntax)
	fails(t, "policy "+strings.Repeat("a", maxText-30)+"\n", 1, api.ErrInvalid)
	fails(t, "policy a"+strings.Repeat(" a", (maxText-30)/2)+"\n", 1, api.ErrSyntax)
}

// P20.3: the examples.
func TestParseExamples(t *testing.T) {
	if s, line, e := policy.Parse(example); line != 0 || e != api.OK || !equal(s, exampleSet()) {
		t.Errorf("%+v, %d, %v", s, line, e)
	}
	fails(t, "policy import\nterm first\naccept\nterm first\n", 4, api.ErrExists)
	fails(t, strings.Replace(example, "match not prefix-list own", "match prefix-list other", 1), 7, api.ErrNotFound)
	if _, line, e := policy.Parse("policy a\nterm t\naccept\ndefault accept\npolicy b\nterm t\naccept\ndefault accept\n"); line != 0 || e != api.OK {
		t.Error("equal terms of two policies:", line, e)
	}
}

// P20.3: all texts of few lines.
func TestParseLines(t *testing.T) {
	lines := []string{
		"prefix-list a\n", "prefix-list b\n", "path-list a\n", "community-list a\n", "policy a\n", "policy b\n", "term a\n", "permit 10.0.0.0/8\n", "permit .\n", "permit 1:1\n", "deny 65536:1\n",
		"match prefix-list a\n", "match not tag 1\n", "set tag 1\n", "set next-hop 0.0.0.0\n", "accept\n", "next\n", "default accept\n", "default reject\n", "x\n", "\n", "accept",
	}
	found := map[api.Errno]int{}
	var follow func(text string, line, left int)
	follow = func(text string, line, left int) {
		wrong, e := agreeParse(t, text)
		found[e]++
		// Behind an error the lines do not matter any more.
		if left == 0 || e != api.OK && wrong <= line {
			return
		}
		for _, next := range lines {
			follow(text+next, line+1, left-1)
		}
	}
	follow("", 0, 6)
	for _, e := range []api.Errno{api.OK, api.ErrSyntax, api.ErrTruncated, api.ErrOrder, api.ErrRange, api.ErrNotFound} {
		if found[e] < 20 {
			t.Errorf("only %d texts with %v", found[e], e)
		}
	}
}

// changedLines returns a text with some lines removed, doubled, swapped or replaced by lines of another one.
func changedLines(r *rand.Rand, text, other string) string {
	lines, others := strings.SplitAfter(text, "\n"), strings.SplitAfter(other, "\n")
	for range 1 + r.IntN(2) {
		at, from := r.IntN(len(lines)), r.IntN(len(lines))
		switch r.IntN(4) {
		case 0:
			lines = slices.Delete(slices.Clone(lines), at, min(at+1+r.IntN(2), len(lines)))
		case 1:
			lines = slices.Insert(slices.Clone(lines), at, lines[from])
		case 2:
			lines[at], lines[from] = lines[from], lines[at]
		case 3:
			lines = slices.Insert(slices.Clone(lines), at, others[r.IntN(len(others))])
		}
		if len(lines) == 0 {
			return ""
		}
	}
	return strings.Join(lines, "")
}

// changedSigns returns a text with some signs removed, inserted or replaced.
func changedSigns(r *rand.Rand, text string) string {
	at := r.IntN(len(text) + 1)
	inserted := []string{"", " ", "\n", "0", "1", "9", "-", ".", "/", ":", "*", "a", "_", "not ", "\r", "\x00"}[r.IntN(16)]
	return text[:at] + inserted + text[min(at+r.IntN(3), len(text)):]
}

// changedWord returns a text with a word replaced by another one.
func changedWord(r *rand.Rand, text string) string {
	words := strings.Fields(text)
	if len(words) == 0 {
		return text
	}
	lines := strings.SplitAfter(text, "\n")
	at := r.IntN(len(lines))
	l := strings.SplitAfter(lines[at], " ")
	i := r.IntN(len(l))
	l[i] = strings.Replace(l[i], strings.TrimRight(l[i], " \n"), pick(r, words...), 1)
	lines[at] = strings.Join(l, "")
	return strings.Join(lines, "")
}

var termLines = regexp.MustCompile("\nterm .*\n")

// P20.3, P20.6, P20.7: changed texts.
func TestChangedTexts(t *testing.T) {
	r := rand.New(rand.NewPCG(20, 3))
	found := map[api.Errno]int{}
	for range 15000 {
		s, other := anySet(r), anySet(r)
		text := printed(s)
		switch r.IntN(4) {
		case 0:
			text = changedLines(r, text, printed(other))
		case 1:
			text = changedSigns(r, text)
		case 2:
			text = changedWord(r, text)
		case 3:
			text = termLines.ReplaceAllStringFunc(text, func(string) string { return "\nterm " + pick(r, "t", "u", "v") + "\n" })
		}
		_, e := agreeParse(t, text)
		found[e]++
		if back, _, e := policy.Parse(text); e == api.OK && (checked(back) != api.OK || printed(back) != text) {
			t.Fatalf("Parse(%q) = %+v", text, back)
		}
	}
	for _, e := range []api.Errno{api.OK, api.ErrSyntax, api.ErrTruncated, api.ErrOrder, api.ErrExists, api.ErrRange, api.ErrInvalid, api.ErrNotFound} {
		if found[e] < 10 {
			t.Error("only", found[e], "texts with", e)
		}
	}
}
