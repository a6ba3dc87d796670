package aspath_test

import (
	"math/rand/v2"
	"strings"
	"testing"

	"routing/api"
	"routing/aspath"
)

// agreeText fails unless Parse returns what the document promises, and reports whether there is a path.
func agreeText(t *testing.T, s string) bool {
	t.Helper()
	want, ok := parsed(s)
	p, e := aspath.Parse(s)
	if ok && (e != api.OK || !equal(p, want)) || !ok && (e != api.ErrSyntax || len(p) != 0) {
		t.Fatalf("Parse(%q) = %v, %v instead of %v, %v", s, p, e, want, ok)
	}
	if !ok {
		return false
	}
	if back, f := aspath.Text(p); back != s || f != api.OK {
		t.Fatalf("Text of Parse(%q) is %q, %v", s, back, f)
	}
	return true
}

// P17.6, P17.9
func TestTexts(t *testing.T) {
	for s, p := range map[string][]api.Segment{
		"": nil, "1": path(seq(1)), "4294967295": path(seq(4294967295)), "65001 65002 65001": path(seq(65001, 65002, 65001)), "65001 65002 {65003,65004}": path(seq(65001, 65002), set(65003, 65004)), "(65010 65011) 65001": path(confSeq(65010, 65011), seq(65001)),
		"{1}": path(set(1)), "{1} {1}": path(set(1), set(1)), "{1,2} 3 {4}": path(set(1, 2), seq(3), set(4)), "[1]": path(confSet(1)), "[1,2,4294967295] [1]": path(confSet(1, 2, 4294967295), confSet(1)), "(1)": path(confSeq(1)), "(2 1 1)": path(confSeq(2, 1, 1)),
		"[1,2] (3) {4} 5": path(confSet(1, 2), confSeq(3), set(4), seq(5)), "(1) [2] (3)": path(confSeq(1), confSet(2), confSeq(3)), "1 {2} 3 {4} {5} 6 7": path(seq(1), set(2), seq(3), set(4), set(5), seq(6, 7)),
	} {
		if text, e := aspath.Text(p); text != s || e != api.OK || printed(p) != s {
			t.Errorf("Text of %q: %q, %v", s, text, e)
		}
		if q, e := aspath.Parse(s); e != api.OK || !equal(q, p) || !agreeText(t, s) {
			t.Errorf("Parse(%q) = %v, %v", s, q, e)
		}
	}
}

// P17.6: texts of no valid path.
func TestParseErrors(t *testing.T) {
	for _, s := range []string{
		" ", "  ", "1  2", " 1", "1 ", "\n", "1\n", "1\n2", "\t", "1\t2", "1\r", "1\u00a02", "\x00", "1\x00", "x", "a1", "1a", "é", "\xff", "٣", "０", "+1", "-1", "1_0", "0x1", "1e3", "1.0", "1.1", "01", "00", "0", "0 1", "1 0", "4294967296", "18446744073709551617", "9223372036854775808",
		"{}", "[]", "()", "{ }", "( )", "{", "}", "[", "]", "(", ")", ",", "1,2", "1,", ",1", "{1", "1}", "[1", "1]", "(1", "1)", "{1]", "[1}", "(1}", "{1)", "(1]", "[1)", "{1,}", "{,1}", "{1,,2}", "{1 2}", "[1 2]", "(1,2)", "{1, 2}", "{1 ,2}", "{1,2", "{ 1}", "{1 }", "(1 )", "( 1)", "(1  2)",
		"{2,1}", "{1,1}", "[2,1]", "[1,1]", "{1,3,2}", "{0}", "[0]", "(0)", "{01}", "[01]", "(01)", "(1 01)", "{4294967296}", "[1,4294967296]", "(4294967296)", "{-1}", "(-1)", "{+1}",
		"(1) (2)", "(1 2) (3)", "((1))", "((1) 2)", "(1 (2))", "(1 (2) 3)", "(1))", "((1)", "(1) 2)", "1 (2)", "1 [2]", "{1} (2)", "{1} [2]", "(1) 2 (3)", "[1] {2} [3]", "(1 {2})", "(1 {2} 3)", "(1 [2] 3)", "(1 [2])", "([1])", "({1})", "(1 2", "1 2)", "(1 2) 3)", "(1 (2 3)",
		"{{1}}", "{1}{2}", "{1}2", "1{2}", "[1][2]", "(1)(2)", "(1)2", "1(2)", "{1},{2}", "{(1)}", "{1,{2}}", "{1}}", "{{1}", "[[1]", "[1]]", "{1},", "1;2", "{1;2}", "<1>", "{1:2}", "\"1\"", "1|2", "/1",
	} {
		if p, e := aspath.Parse(s); e != api.ErrSyntax || len(p) != 0 || agreeText(t, s) {
			t.Errorf("Parse(%q) = %v, %v", s, p, e)
		}
	}
}

// P17.6, P17.9: all texts of few signs.
func TestAllTexts(t *testing.T) {
	for _, c := range []struct {
		signs         string
		length, texts int // at least so many are texts of paths
	}{{"0129 ,(){}[]", 4, 150}, {"12 ,(){}[]", 5, 150}, {"1 2()", 7, 800}, {"1,2{} ", 7, 800}, {"1 (][)", 7, 50}} {
		found := 0
		longest := []string{""}
		for range c.length {
			var texts []string
			for _, s := range longest {
				for _, sign := range c.signs {
					texts = append(texts, s+string(sign))
				}
			}
			for _, s := range texts {
				if agreeText(t, s) {
					found++
				}
			}
			longest = texts
		}
		if found < c.texts {
			t.Errorf("%d texts of %q", found, c.signs)
		}
	}
}

// P17.6, P17.9
func TestAnyTexts(t *testing.T) {
	r := rand.New(rand.NewPCG(17, 6))
	for range 5000 {
		p := anyPath(r)
		s, e := aspath.Text(p)
		if e != api.OK || s != printed(p) {
			t.Fatalf("Text(%v) = %q, %v", p, s, e)
		}
		if q, e := aspath.Parse(s); e != api.OK || !equal(q, p) || !aspath.Same(q, p) {
			t.Fatalf("Parse(%q) = %v, %v", s, q, e)
		}
		// A text with a change is that of another path or of none.
		at := r.IntN(len(s) + 1)
		agreeText(t, s[:at]+string("0129 ,(){}[]x\n"[r.IntN(14)])+s[min(at+r.IntN(2), len(s)):])
		// The errors of Text are those of Check.
		p = damaged(r, p)
		if s, e := aspath.Text(p); e != checked(p) || e != api.OK && s != "" {
			t.Fatalf("Text(%v) = %q, %v instead of %v", p, s, e, checked(p))
		}
	}
}

// P17.6: errors of Text.
func TestTextErrors(t *testing.T) {
	for _, c := range []struct {
		p    []api.Segment
		want api.Errno
	}{
		{many(set(1), 65), api.ErrTooLong}, {path(api.Segment{AS: []int{1}}), api.ErrKind}, {path(seq()), api.ErrInvalid}, {path(seq(count(1, 256)...)), api.ErrTooLong}, {path(seq(0)), api.ErrRange}, {path(set(2, 1)), api.ErrOrder},
		{path(seq(1), seq(2)), api.ErrInvalid}, {path(confSeq(1), confSeq(2)), api.ErrInvalid}, {path(set(1), confSet(2)), api.ErrInvalid}, {path(seq(1), set(2), seq(-1)), api.ErrRange},
	} {
		if s, e := aspath.Text(c.p); s != "" || e != c.want {
			t.Errorf("Text(%v) = %q, %v instead of %v", c.p, s, e, c.want)
		}
	}
}

// P17.6, P17.9: texts of paths that are as long as possible, and longer ones.
func TestTextLimits(t *testing.T) {
	numbers := func(n int) string { return strings.TrimSuffix(strings.Repeat("4294967295 ", n), " ") }
	ascending := func(n int) string {
		var words []string
		for i := range n {
			words = append(words, printed(path(seq(1000000000+i))))
		}
		return strings.Join(words, ",")
	}
	const most = maxSegments * maxNumbers
	for _, c := range []struct {
		s     string
		valid bool
	}{
		{numbers(255), true}, {numbers(256), true}, {numbers(510), true}, {numbers(511), true}, {numbers(most), true}, {numbers(most + 1), false},
		{"(" + numbers(255) + ")", true}, {"(" + numbers(256) + ")", true}, {"(" + numbers(most) + ")", true}, {"(" + numbers(most+1) + ")", false}, {"(" + numbers(255) + ") (1)", false},
		{"(" + numbers(most-255) + ") " + numbers(255), true}, {"(" + numbers(most-255) + ") " + numbers(256), false}, {"(" + numbers(most-254) + ") 1", false},
		{"{" + ascending(255) + "}", true}, {"{" + ascending(256) + "}", false}, {"[" + ascending(255) + "]", true}, {"[" + ascending(256) + "]", false},
		{strings.Repeat("{1} ", 63) + "{1}", true}, {strings.Repeat("{1} ", 64) + "{1}", false}, {strings.Repeat("[1] ", 63) + "1", true}, {strings.Repeat("[1] ", 64) + "1", false}, {strings.Repeat("1 {2} ", 31) + "3 {4}", true}, {strings.Repeat("1 {2} ", 32) + "3", false},
		{strings.Repeat("{"+ascending(255)+"} ", 63) + "1", true}, {strings.Repeat("{"+ascending(255)+"} ", 63) + "{" + ascending(256) + "}", false}, {strings.Repeat("{"+ascending(255)+"} ", 63) + numbers(256), false},
	} {
		if agreeText(t, c.s) != c.valid {
			t.Errorf("a text of %d bytes that begins with %.20q: %v", len(c.s), c.s, !c.valid)
		}
	}
	for _, part := range []string{"(", "{", "1 ", "1", "0", " ", "{1} ", "(1 ", "(1) ", "[", "{1,", "1,", ")", "1)", "9", "[1] ", ","} {
		for _, end := range []string{"", "1", ")", "1)", "}", "1}"} {
			if p, e := aspath.Parse(strings.Repeat(part, 300000) + end); e != api.ErrSyntax || len(p) != 0 {
				t.Errorf("Parse of many %q and %q: %v", part, end, e)
			}
		}
	}
}
