package regex_test

import (
	"math/rand/v2"
	"strings"
	"testing"

	"routing/api"
	"routing/regex"
)

// P15.2, P15.3
func TestPatterns(t *testing.T) {
	one, two, three, any := number(1), number(2), number(3), node(api.ReAny)
	empty, none := node(api.ReEmpty), node(api.ReAlt)
	star, plus, opt, seq, alt := api.ReStar, api.RePlus, api.ReOpt, api.ReSeq, api.ReAlt
	for s, r := range map[string]api.Regex{
		"()": empty, "!": none, ".": any, "0": number(0), "4294967295": number(4294967295), "[0-4294967295]": span(0, 4294967295), "[7-8]": span(7, 8),
		"65001 .*":               node(seq, number(65001), node(star, any)),
		"(65001|[65010-65019])+": node(plus, node(alt, number(65001), span(65010, 65019))),
		"1 2 3":                  node(seq, one, two, three),
		"(1 2) 3":                node(seq, node(seq, one, two), three),
		"1 (2 3)":                node(seq, one, node(seq, two, three)),
		"1|2|3":                  node(alt, one, two, three),
		"(1|2)|3":                node(alt, node(alt, one, two), three),
		"1|(2|3)":                node(alt, one, node(alt, two, three)),
		"1 2|3":                  node(alt, node(seq, one, two), three),
		"1 (2|3)":                node(seq, one, node(alt, two, three)),
		"!|1":                    node(alt, none, one),
		"! ()":                   node(seq, none, empty),
		"!*":                     node(star, none),
		"()+":                    node(plus, empty),
		".?":                     node(opt, any),
		"[1-2]*":                 node(star, span(1, 2)),
		"(1*)*":                  node(star, node(star, one)),
		"((1?)+)*":               node(star, node(plus, node(opt, one))),
		"1* 2+|3?":               node(alt, node(seq, node(star, one), node(plus, two)), node(opt, three)),
		"(1 2)*":                 node(star, node(seq, one, two)),
		"(1|2)?":                 node(opt, node(alt, one, two)),
		"((1 2)* (3|.))+|() !":   node(alt, node(plus, node(seq, node(star, node(seq, one, two)), node(alt, three, any))), node(seq, empty, none)),
	} {
		if p, e := regex.Print(r); p != s || e != api.OK || printed(r) != s {
			t.Errorf("Print of %q is %q, %v", s, p, e)
		}
		if x, e := regex.Parse(s); e != api.OK || !equal(x, r) {
			t.Errorf("Parse(%q) = %v, %v", s, x, e)
		}
	}
}

// P15.3: texts that are no patterns.
func TestParseErrors(t *testing.T) {
	for _, s := range []string{
		"", " ", "(65001)", "65001  65002", " 1", "1 ", "1\n", "\n", "\t", "1\t2", "1\u00a02", "[5-5]", "[6-5]", "[5]", "[5-]", "[-5]", "[5-6", "5-6", "[5-6-7]", "[05-6]", "[5-06]",
		"[5 -6]", "[ 5-6]", "[.-6]", "[0-4294967296]", "4294967296", "18446744073709551617", "-1", "+1", "01", "00", "1_0", "0x1", "1e3", "a", "é", "\x00", "\xff", "٣",
		"*", "+", "?", "|", "1|", "|1", "1||2", "1| 2", "1 |2", "1 | 2", "1**", "1+?", "(1)*", "(.)", "(!)", "(())", "((1 2))", "(1 2)", "(1|2)", "(1*)", "(1*) 2", "1 (2*)", "(1 2)|3", "1|(2 3)",
		"1(2)", "(1 2)3", "1.", ".1", "..", "1!", "()()", "()1", "(", ")", "(1 2", "1 2)", "((1 2)", "( )", "(1 2 )*", "( 1 2)*", "(|)", "(1|)", "(|1)*", "1 *", "1 2 *", "[1-2]]", "[[1-2]", "1[1-2]",
		"((1*))*", "(1*)*)", "[1-2", "1,2", "{1}", "^1$", "1-2", "_1_",
	} {
		if r, e := regex.Parse(s); e != api.ErrSyntax || !equal(r, api.Regex{}) {
			t.Errorf("Parse(%q) = %v, %v", s, r, e)
		}
	}
}

// P15.3: patterns of expressions that are too large or too deep, and long texts of any form.
func TestParseLimits(t *testing.T) {
	stars := func(n int) string { return strings.Repeat("(", n-1) + "1*" + strings.Repeat(")*", n-1) }
	right := func(n int) string { return strings.Repeat("(1 ", n-1) + "1 1" + strings.Repeat(") 1", n-1) }
	for s, valid := range map[string]bool{
		strings.Repeat("1 ", 62) + "1": true, strings.Repeat("1 ", 63) + "1": false,
		strings.Repeat("()|", 62) + "!": true, strings.Repeat("()|", 63) + "!": false,
		strings.Repeat("1? ", 30) + "1 2 3": true, strings.Repeat("1? ", 31) + "1 2": false,
		stars(15): true, stars(16): false, "(" + stars(15) + ")+": false, "(" + stars(14) + ")+": true,
		right(15): true, right(16): false, stars(15) + " " + stars(14): false, stars(14) + " " + stars(14): true,
		"[4294967294-4294967295]" + strings.Repeat(" [1234567890-4294967295]", 62): true,
	} {
		r, e := regex.Parse(s)
		if valid && (e != api.OK || printed(r) != s) || !valid && (e != api.ErrSyntax || !equal(r, api.Regex{})) {
			t.Errorf("Parse(%q): %v", s, e)
		}
	}
	for _, part := range []string{"(", "1 ", "1|", "1", "0", "(1 ", "(1|", "[", "()|", "1*", "[1-2] ", "(1*", "(.? "} {
		for _, end := range []string{"", "1", ")", "1)"} {
			if _, e := regex.Parse(strings.Repeat(part, 1000000) + end); e != api.ErrSyntax {
				t.Errorf("Parse of many %q and %q: %v", part, end, e)
			}
		}
	}
}

// expressions returns by length all expressions whose patterns are at most that long and consist of the signs of
// TestAllTexts.
func expressions(length int) [][]api.Regex {
	l := make([][]api.Regex, length+1)
	add := func(r api.Regex) {
		if n := len(printed(r)); n <= length {
			l[n] = append(l[n], r)
		}
	}
	for _, r := range []api.Regex{number(1), number(11), number(111), number(1111), number(11111), node(api.ReAny), node(api.ReAlt), node(api.ReEmpty)} {
		add(r)
	}
	for n := 2; n <= length; n++ {
		for _, shorter := range l[:n] {
			for _, r := range shorter {
				if x := node(api.ReStar, r); len(printed(x)) == n {
					add(x)
				}
			}
		}
		for _, kind := range []int{api.ReSeq, api.ReAlt} {
			var extend func(kids []api.Regex)
			extend = func(kids []api.Regex) {
				whole := node(kind, append([]api.Regex(nil), kids...)...)
				if len(kids) > 1 && len(printed(whole)) == n {
					add(whole)
				}
				// Another kid adds a separator and at least one sign to the pattern.
				if len(kids) > 1 && len(printed(whole)) >= n || len(kids) == 1 && len(printed(kids[0]))+2 > n {
					return
				}
				for _, shorter := range l[:n] {
					for _, r := range shorter {
						extend(append(kids[:len(kids):len(kids)], r))
					}
				}
			}
			extend(nil)
		}
	}
	return l
}

// P15.3, P15.7: all texts of few signs are compared with the patterns of all expressions.
func TestAllTexts(t *testing.T) {
	const length = 6
	patterns := map[string]api.Regex{}
	for _, list := range expressions(length) {
		for _, r := range list {
			if other, found := patterns[printed(r)]; found {
				t.Fatalf("%v and %v have the pattern %q", other, r, printed(r))
			}
			patterns[printed(r)] = r
		}
	}
	found := 0
	longest := []string{""}
	for range length {
		var texts []string
		for _, s := range longest {
			for _, c := range "1.!() |*" {
				texts = append(texts, s+string(c))
			}
		}
		for _, s := range texts {
			want, valid := patterns[s]
			if strings.Contains(s, "111111") {
				want, valid = number(111111), true
			}
			r, e := regex.Parse(s)
			if valid && (e != api.OK || !equal(r, want)) || !valid && (e != api.ErrSyntax || !equal(r, api.Regex{})) {
				t.Fatalf("Parse(%q) = %v, %v instead of %v", s, r, e, want)
			}
			if valid {
				found++
			}
		}
		longest = texts
	}
	if found != len(patterns)+1 || found < 900 {
		t.Error(found, "texts are patterns,", len(patterns)+1, "should be")
	}
}

// P15.2, P15.3, P15.7
func TestRoundTrip(t *testing.T) {
	r := rand.New(rand.NewPCG(15, 7))
	for range 20000 {
		x := validRegex(r)
		s, e := regex.Print(x)
		if e != api.OK || s != printed(x) {
			t.Fatalf("Print of %q is %q, %v", printed(x), s, e)
		}
		y, e := regex.Parse(s)
		if e != api.OK || !equal(x, y) || !regex.Same(x, y) {
			t.Fatalf("Parse(%q) = %v, %v", s, y, e)
		}
		// A pattern with a change is mostly none, but if it is one, Print returns it.
		at := r.IntN(len(s))
		s = s[:at] + string("0123456789()[]-|*+?.! x"[r.IntN(23)]) + s[at+r.IntN(2):]
		if y, e = regex.Parse(s); e == api.OK {
			if back, f := regex.Print(y); back != s || f != api.OK {
				t.Fatalf("Print of Parse of %q is %q, %v", s, back, f)
			}
		} else if e != api.ErrSyntax || !equal(y, api.Regex{}) {
			t.Fatalf("Parse(%q) = %v, %v", s, y, e)
		}
	}
}

// P15.2: the errors are those of Check.
func TestPrintErrors(t *testing.T) {
	r := rand.New(rand.NewPCG(15, 2))
	for range 10000 {
		x := damaged(r, anyRegex(r, 1+r.IntN(90), 1+r.IntN(25)))
		if s, e := regex.Print(x); e != checked(x) || (e == api.OK) != (s != "") {
			t.Fatalf("Print(%v) = %q, %v", x, s, e)
		}
	}
}
