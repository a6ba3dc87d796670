package plist_test

import (
	"math/rand/v2"
	"slices"
	"strings"
	"testing"

	"routing/api"
	"routing/plist"
)

// agreeText fails unless a valid rule has the text that the document promises, and is parsed from it.
func agreeText(t *testing.T, r api.PrefixRule) {
	t.Helper()
	s, e := plist.Text(r)
	if e != api.OK || s != printed(r) {
		t.Fatalf("Text(%v) = %q, %v", r, s, e)
	}
	if back, e := plist.Parse(s); e != api.OK || back != r {
		t.Fatalf("Parse(%q) = %v, %v", s, back, e)
	}
}

// P19.3
func TestText(t *testing.T) {
	for s, r := range map[string]api.PrefixRule{
		"permit 10.0.0.0/8 16-24": permit(0x0a000000, 8, 16, 24), "permit 10.0.0.0/8": permit(0x0a000000, 8, 8, 8), "deny 10.0.0.0/8": deny(0x0a000000, 8, 8, 8), "deny 10.0.0.0/8 8-24": deny(0x0a000000, 8, 8, 24),
		"permit 10.0.0.0/8 9-9": permit(0x0a000000, 8, 9, 9), "permit 10.0.0.0/8 8-9": permit(0x0a000000, 8, 8, 9), "permit 0.0.0.0/0": permit(0, 0, 0, 0), "permit 0.0.0.0/0 0-32": permit(0, 0, 0, 32), "deny 0.0.0.0/0 0-1": deny(0, 0, 0, 1), "deny 0.0.0.0/0 1-1": deny(0, 0, 1, 1), "deny 0.0.0.0/0 32-32": deny(0, 0, 32, 32),
		"deny 10.1.2.3/32": deny(0x0a010203, 32, 32, 32), "permit 255.255.255.254/31 31-32": permit(0xfffffffe, 31, 31, 32), "permit 255.255.255.255/32": permit(0xffffffff, 32, 32, 32), "permit 128.0.0.0/1 10-20": permit(0x80000000, 1, 10, 20),
	} {
		if text, e := plist.Text(r); e != api.OK || text != s {
			t.Errorf("Text(%v) = %q, %v", r, text, e)
		}
		if back, e := plist.Parse(s); e != api.OK || back != r {
			t.Errorf("Parse(%q) = %v, %v", s, back, e)
		}
	}
}

// P19.3: the errors of Text are those of Check.
func TestTextErrors(t *testing.T) {
	for _, r := range []api.PrefixRule{
		permit(0x0a000001, 8, 8, 8), permit(0x0a000001, 8, 7, 8), permit(0, 33, 33, 33), permit(0, -1, -1, -1), permit(0, -1, 0, 32),
		permit(0x0a000000, 8, 7, 8), permit(0x0a000000, 8, 9, 8), permit(0x0a000000, 8, 8, 33), permit(0x0a000000, 8, 0, 0), deny(0, 0, -1, -1), deny(0, 0, 33, 33),
	} {
		if s, e := plist.Text(r); s != "" || e == api.OK || e != checked(r) {
			t.Errorf("Text(%v) = %q, %v", r, s, e)
		}
	}
}

// P19.3: texts of no valid rule.
func TestParseErrors(t *testing.T) {
	l := []string{
		"", " ", "permit", "deny", "permit ", "deny ", "10.0.0.0/8", " 10.0.0.0/8", "allow 10.0.0.0/8", "Permit 10.0.0.0/8", "DENY 10.0.0.0/8", "permits 10.0.0.0/8", "perm 10.0.0.0/8", "permit10.0.0.0/8", "reject 10.0.0.0/8", "10.0.0.0/8 permit", "permit permit 10.0.0.0/8", "permit deny 10.0.0.0/8",
		"permit  10.0.0.0/8", " permit 10.0.0.0/8", "permit 10.0.0.0/8 ", "permit 10.0.0.0/8\n", "permit\t10.0.0.0/8", "permit 10.0.0.0/8\x00", "permit 10.0.0.0/8 16-24 ", "permit 10.0.0.0/8  16-24", "permit 10.0.0.0/8 16-24\n", "permit 10.0.0.0/8 16-24 24", "permit 10.0.0.0/8 16-24 deny", "permit 10.0.0.0/8,16-24",
		"permit 10.0.0.1/8", "permit 10.0.0.0/33", "permit 10.0.0.0/08", "permit 10.0.0.0", "permit 10.0.0/8", "permit 010.0.0.0/8", "permit 10.0.0.256/32", "permit 10.0.0.0/", "permit /8", "permit x", "deny 0.0.0.0/33", "deny 0.0.0.1/0", "deny 0.0.0.0/-1", "permit 10.0.0.1/8 8-16", "permit 0.0.0.0 0-32",
	}
	for _, lengths := range []string{
		"", "8-8", "7-9", "7-8", "0-0", "24-16", "9-8", "8-33", "33-33", "16", "16-", "-16", "-", "--", "16--24", "16-24-", "-16-24", "16-24-32", "16 - 24", "16 -24", "16- 24", "16-24x", "x16-24", "a-b", "016-24", "16-024", "+16-24", "16-+24", "16-24.0", "0x10-24", "1_6-24", "16-2_4", "16:24", "16,24", "16..24", "16/24",
		"8-8-8", "8-24 ", " 8-24", "-0-24", "8--0", "4294967304-24", "8-4294967304", "18446744073709551624-24", "8-18446744073709551624", "16-" + strings.Repeat("9", 1000), strings.Repeat("0", 1000) + "-16", "１６-24", "16–24", "16-\xb2", "ge 16", "le 24", "*",
	} {
		l = append(l, "permit 10.0.0.0/8 "+lengths, "deny 10.0.0.0/8 "+lengths)
	}
	for _, s := range l {
		if r, e := plist.Parse(s); r != (api.PrefixRule{}) || e != api.ErrSyntax {
			t.Errorf("Parse(%q) = %v, %v", s, r, e)
		}
	}
}

// P19.3, P19.5
func TestAnyText(t *testing.T) {
	r := rand.New(rand.NewPCG(19, 3))
	for range 20000 {
		agreeText(t, anyRule(r))
	}
	for n := range 33 {
		for low := n; low <= 32; low++ {
			for high := low; high <= 32; high++ {
				agreeText(t, permit(0, n, low, high))
				agreeText(t, deny(0, n, low, high))
			}
		}
	}
}

// P19.3, P19.5: all texts of few words; those of valid rules are exactly the ones that are parsed.
func TestAllTexts(t *testing.T) {
	words := []string{"permit", "deny", "Permit", "", " ", "-", "0.0.0.0/0", "0.0.0.0/1", "64.0.0.0/1", "128.0.0.0/1", "128.0.0.0/2", "192.0.0.0/02", "0.0.0.0", "0-0", "0-1", "1-1", "1-2", "2-1", "01-2", "1-02", "2-2", "2-3", "3-33", "0", "1", "2"}
	valid := map[string]api.PrefixRule{}
	for _, r := range rulesOf(between(pre(0, 0), 3), 3) {
		valid[printed(r)] = r
	}
	found := map[string]bool{}
	for count := range 5 {
		texts := []string{""}
		for i := range count {
			var longer []string
			for _, s := range texts {
				for _, w := range words {
					if i > 0 {
						w = " " + w
					}
					longer = append(longer, s+w)
				}
			}
			texts = longer
		}
		for _, s := range texts {
			want, isText := valid[s]
			r, e := plist.Parse(s)
			if isText && (e != api.OK || r != want) || !isText && (e != api.ErrSyntax || r != api.PrefixRule{}) {
				t.Fatalf("Parse(%q) = %v, %v", s, r, e)
			}
			if isText {
				found[s] = true
			}
		}
	}
	if len(found) < 20 {
		t.Error("only", len(found), "texts of rules")
	}
}

// P19.3, P19.5: changed texts.
func TestChangedTexts(t *testing.T) {
	r := rand.New(rand.NewPCG(19, 5))
	parsed := 0
	for range 100000 {
		s := []byte(printed(anyRule(r)))
		at := r.IntN(len(s) + 1)
		s = slices.Concat(s[:at], []byte{"0123456789./- pde\n"[r.IntN(18)]}, s[min(at+r.IntN(3), len(s)):])
		x, e := plist.Parse(string(s))
		if e == api.OK && (checked(x) != api.OK || printed(x) != string(s)) || e != api.OK && (e != api.ErrSyntax || x != api.PrefixRule{}) {
			t.Fatalf("Parse(%q) = %v, %v", s, x, e)
		}
		if e == api.OK {
			parsed++
		}
	}
	if parsed < 5000 {
		t.Error("only", parsed, "texts of rules")
	}
}
