package plist_test

import (
	"math/rand/v2"
	"slices"
	"testing"

	"routing/api"
	"routing/plist"
)

// P19.4: the example, and the cases that the document names.
func TestTrim(t *testing.T) {
	a, b := permit(0x0a000000, 8, 12, 20), deny(0x0b000000, 8, 8, 8)
	for i, c := range []struct{ rules, want []api.PrefixRule }{
		{nil, nil}, {[]api.PrefixRule{}, nil}, {[]api.PrefixRule{a}, []api.PrefixRule{a}},
		{[]api.PrefixRule{permit(0, 0, 0, 32), deny(0x0a000000, 8, 8, 24)}, []api.PrefixRule{permit(0, 0, 0, 32)}},
		{[]api.PrefixRule{deny(0x0a000000, 8, 8, 24), permit(0, 0, 0, 32)}, []api.PrefixRule{deny(0x0a000000, 8, 8, 24), permit(0, 0, 0, 32)}},
		// Equal rules, and such that differ in Permit only.
		{[]api.PrefixRule{a, a, a}, []api.PrefixRule{a}}, {[]api.PrefixRule{a, b, a, b}, []api.PrefixRule{a, b}}, {[]api.PrefixRule{b, a, b}, []api.PrefixRule{b, a}},
		{[]api.PrefixRule{a, deny(0x0a000000, 8, 12, 20)}, []api.PrefixRule{a}},
		// The lengths: the same, narrower and wider by one.
		{[]api.PrefixRule{a, permit(0x0a000000, 8, 13, 20)}, []api.PrefixRule{a}}, {[]api.PrefixRule{a, permit(0x0a000000, 8, 12, 19)}, []api.PrefixRule{a}},
		{[]api.PrefixRule{a, permit(0x0a000000, 8, 11, 20)}, []api.PrefixRule{a, permit(0x0a000000, 8, 11, 20)}}, {[]api.PrefixRule{a, permit(0x0a000000, 8, 12, 21)}, []api.PrefixRule{a, permit(0x0a000000, 8, 12, 21)}},
		// The prefixes: longer, shorter, and beside.
		{[]api.PrefixRule{a, deny(0x0a000000, 9, 12, 20)}, []api.PrefixRule{a}}, {[]api.PrefixRule{a, deny(0x0a800000, 9, 12, 20)}, []api.PrefixRule{a}}, {[]api.PrefixRule{a, deny(0x0a000000, 7, 12, 20)}, []api.PrefixRule{a, deny(0x0a000000, 7, 12, 20)}}, {[]api.PrefixRule{a, deny(0x0b000000, 8, 12, 20)}, []api.PrefixRule{a, deny(0x0b000000, 8, 12, 20)}},
		// Two rules that cover a third one only together.
		{[]api.PrefixRule{permit(0x0a000000, 8, 8, 16), permit(0x0a000000, 8, 17, 24), a}, []api.PrefixRule{permit(0x0a000000, 8, 8, 16), permit(0x0a000000, 8, 17, 24), a}},
		{[]api.PrefixRule{deny(0x0a000000, 9, 12, 20), deny(0x0a800000, 9, 12, 20), a}, []api.PrefixRule{deny(0x0a000000, 9, 12, 20), deny(0x0a800000, 9, 12, 20), a}},
		// A rule that was left out covers a later one.
		{[]api.PrefixRule{permit(0, 0, 0, 32), deny(0x0a000000, 8, 8, 32), permit(0x0a010000, 16, 16, 24)}, []api.PrefixRule{permit(0, 0, 0, 32)}},
		// Rules that are not valid cover nothing and are left out.
		{[]api.PrefixRule{permit(0, 0, 0, 33), a}, []api.PrefixRule{a}}, {[]api.PrefixRule{permit(0, 0, -1, 32), a}, []api.PrefixRule{a}}, {[]api.PrefixRule{permit(0x0a000000, 7, 7, 32), permit(0x0a000001, 8, 8, 32), a, deny(0x0a000000, 8, 20, 12), b}, []api.PrefixRule{permit(0x0a000000, 7, 7, 32)}},
		{[]api.PrefixRule{permit(0, 33, 33, 33), permit(0x0a000000, 8, 7, 24), a, {Min: 1}}, []api.PrefixRule{a}},
	} {
		if l := plist.Trim(c.rules); !slices.Equal(l, c.want) || !slices.Equal(trimmed(c.rules), c.want) {
			t.Errorf("case %d: %v instead of %v", i, l, c.want)
		}
	}
}

// P19.4: for all pairs of rules of few bits, the second one is left out exactly if the first one applies to every prefix
// to which it applies.
func TestTrimPairs(t *testing.T) {
	for _, x := range []struct {
		in   api.Prefix
		high int
	}{{pre(0, 0), 3}, {pre(0x0a0102f8, 29), 32}} {
		prefixes := between(x.in, x.high)
		rules := rulesOf(prefixes, x.high)
		for _, a := range rules {
			for _, b := range rules {
				more := slices.ContainsFunc(prefixes, func(p api.Prefix) bool { return applies(b, p) && !applies(a, p) })
				want := []api.PrefixRule{a, b}
				if !more {
					want = want[:1]
				}
				if l := plist.Trim([]api.PrefixRule{a, b}); !slices.Equal(l, want) {
					t.Fatalf("Trim(%v, %v) = %v", a, b, l)
				}
			}
		}
	}
}

// P19.4, P19.6
func TestAnyTrim(t *testing.T) {
	r := rand.New(rand.NewPCG(19, 4))
	prefixes := append(between(pre(0, 0), 4), between(pre(0x0a000000, 28), 32)...)
	shorter := 0
	for range 5000 {
		var rules []api.PrefixRule
		for range r.IntN(12) {
			x := anyRule(r)
			if r.IntN(8) == 0 {
				x = damaged(r, x)
			}
			rules = append(rules, x)
		}
		l := plist.Trim(rules)
		if !slices.Equal(l, trimmed(rules)) {
			t.Fatalf("Trim(%v) = %v instead of %v", rules, l, trimmed(rules))
		}
		if again := plist.Trim(l); !slices.Equal(again, l) {
			t.Fatalf("Trim(%v) = %v", l, again)
		}
		for _, p := range append(prefixes, anyPrefix(r)) {
			if plist.Permits(l, p) != plist.Permits(rules, p) {
				t.Fatalf("Permits(%v, %v) is changed by Trim", rules, p)
			}
		}
		for i, later := range l {
			for _, earlier := range l[:i] {
				if !slices.ContainsFunc([]api.Prefix{pre(later.Prefix.Addr, later.Min), pre(later.Prefix.Addr, later.Max), pre(later.Prefix.Addr+api.Addr(size(later.Prefix.Len)-size(later.Max)), later.Max)}, func(p api.Prefix) bool { return !applies(earlier, p) }) {
					t.Fatalf("%v covers %v", earlier, later)
				}
			}
		}
		if len(l) < len(rules) {
			shorter++
		}
	}
	if shorter < 2000 {
		t.Error("only", shorter, "lists got shorter")
	}
}

// P19.4: a long list.
func TestTrimLong(t *testing.T) {
	var rules []api.PrefixRule
	for i := range 2000 {
		rules = append(rules, permit(api.Addr(i)<<16, 16, 16, 24), deny(api.Addr(i)<<16, 17, 18, 24))
	}
	l := plist.Trim(append(rules, permit(0, 0, 0, 32), permit(0, 0, 0, 0)))
	if len(l) != 2001 || l[0] != rules[0] || l[1999] != rules[3998] || l[2000] != permit(0, 0, 0, 32) {
		t.Error(len(l), "rules")
	}
}

// P19.4, R5: the argument is not changed, nor shared with the result.
func TestTrimMemory(t *testing.T) {
	whole := []api.PrefixRule{permit(0, 0, 0, 33), permit(0x0a000000, 8, 8, 8), permit(0x0a000000, 8, 8, 8), deny(0x0b000000, 8, 8, 9), permit(0, 0, 0, 32), permit(1, 32, 32, 32), permit(2, 32, 32, 32)}
	for n := range len(whole) + 1 {
		before := slices.Clone(whole)
		l := plist.Trim(whole[:n])
		if !slices.Equal(whole, before) {
			t.Fatalf("Trim of %d rules changes its argument to %v", n, whole)
		}
		l = l[:cap(l)]
		for i := range l {
			l[i] = deny(7, 7, 7, 7)
		}
		if !slices.Equal(whole, before) {
			t.Fatalf("the result of Trim of %d rules shares memory with its argument", n)
		}
		plist.Permits(whole[:n], pre(0, 8))
		if !slices.Equal(whole, before) {
			t.Fatalf("Permits of %d rules changes its argument to %v", n, whole)
		}
	}
	valid := whole[3:5]
	if l := plist.Trim(valid); !slices.Equal(l, valid) || &l[0] == &valid[0] {
		t.Error("a list of which nothing is left out is returned itself")
	}
}
