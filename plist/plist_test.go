package plist_test

import (
	"math"
	"math/rand/v2"
	"slices"
	"testing"

	"routing/api"
	"routing/plist"
)

var extremes = []int{math.MinInt, -1 << 32, -33, -1, 33, 40, 256, 1 << 32, 1<<32 + 8, math.MaxInt}

// P19.1: all lengths.
func TestCheck(t *testing.T) {
	lengths := append(slices.Clone(extremes), 0, 1, 7, 8, 9, 16, 24, 31, 32)
	for _, n := range lengths {
		for _, low := range lengths {
			for _, high := range lengths {
				for _, a := range []api.Addr{0, 1, 0x0a000000, 0x80000000, 0xffffffff} {
					for _, allow := range []bool{true, false} {
						r := rule(allow, pre(a, n), low, high)
						if e := plist.Check(r); e != checked(r) {
							t.Fatalf("Check(%v) = %v instead of %v", r, e, checked(r))
						}
					}
				}
			}
		}
	}
}

// P19.1: each error, and that of the prefix first.
func TestCheckErrors(t *testing.T) {
	for _, c := range []struct {
		r    api.PrefixRule
		want api.Errno
	}{
		{permit(0x0a000000, 8, 16, 24), api.OK}, {deny(0x0a000000, 8, 8, 8), api.OK}, {permit(0, 0, 0, 0), api.OK}, {permit(0, 0, 0, 32), api.OK}, {deny(1, 32, 32, 32), api.OK}, {api.PrefixRule{}, api.OK},
		{permit(0x0a000001, 8, 8, 8), api.ErrInvalid}, {permit(0, 33, 33, 33), api.ErrInvalid}, {permit(0, -1, 0, 0), api.ErrInvalid}, {permit(0x0a000001, 8, 7, 6), api.ErrInvalid}, {permit(0, 33, 40, 39), api.ErrInvalid},
		{permit(0x0a000000, 8, 7, 24), api.ErrRange}, {permit(0x0a000000, 8, 7, 7), api.ErrRange}, {permit(0x0a000000, 8, 24, 23), api.ErrRange}, {permit(0x0a000000, 8, 8, 33), api.ErrRange}, {permit(0x0a000000, 8, 33, 33), api.ErrRange}, {permit(0x0a000000, 8, 33, 32), api.ErrRange}, {permit(0x0a000000, 8, 0, 0), api.ErrRange}, {permit(0, 0, -1, 5), api.ErrRange}, {permit(0, 0, 0, -1), api.ErrRange},
	} {
		if e := plist.Check(c.r); e != c.want || checked(c.r) != c.want {
			t.Errorf("Check(%v) = %v instead of %v", c.r, e, c.want)
		}
	}
}

// P19.2: the example and its limits.
func TestMatch(t *testing.T) {
	for _, c := range []struct {
		r    api.PrefixRule
		p    api.Prefix
		want bool
	}{
		{permit(0x0a000000, 8, 16, 24), pre(0x0a010000, 16), true}, {permit(0x0a000000, 8, 16, 24), pre(0x0a010200, 24), true}, {permit(0x0a000000, 8, 16, 24), pre(0x0a000000, 8), false},
		{permit(0x0a000000, 8, 16, 24), pre(0x0a000000, 15), false}, {permit(0x0a000000, 8, 16, 24), pre(0x0a010200, 25), false}, {permit(0x0a000000, 8, 16, 24), pre(0x0b010000, 16), false}, {permit(0x0a000000, 8, 16, 24), pre(0x09ff0000, 16), false}, {permit(0x0a000000, 8, 16, 24), pre(0x0aff0000, 16), true},
		{permit(0x0a000000, 8, 8, 8), pre(0x0a000000, 8), true}, {permit(0x0a000000, 8, 8, 8), pre(0x0a000000, 9), false}, {permit(0x0a000000, 8, 8, 8), pre(0x08000000, 7), false}, {permit(0x0a000000, 8, 8, 8), pre(0, 0), false},
		{deny(0, 0, 0, 32), pre(0, 0), true}, {deny(0, 0, 0, 32), pre(0xffffffff, 32), true}, {deny(0, 0, 1, 31), pre(0, 0), false}, {deny(0, 0, 1, 31), pre(0xffffffff, 32), false}, {deny(5, 32, 32, 32), pre(5, 32), true}, {deny(5, 32, 32, 32), pre(4, 32), false},
		// Prefixes that are not valid, and rules that are not.
		{permit(0, 0, 0, 32), pre(0x0a000001, 8), false}, {permit(0, 0, 0, 32), pre(0, 33), false}, {permit(0, 0, 0, 32), pre(0, -1), false}, {permit(1, 8, 8, 32), pre(1, 8), false}, {permit(0x0a000001, 8, 8, 32), pre(0x0a000001, 32), false},
		{permit(0, 0, 0, 33), pre(0, 8), false}, {permit(0, 0, -1, 32), pre(0, 8), false}, {permit(0x0a000000, 8, 7, 32), pre(0x0a000000, 8), false}, {permit(0, 0, 9, 8), pre(0, 8), false}, {permit(0, 0, 9, 8), pre(0, 9), false}, {permit(0, 33, 33, 33), pre(0, 33), false},
	} {
		if m := plist.Match(c.r, c.p); m != c.want || applies(c.r, c.p) != c.want {
			t.Errorf("Match(%v, %v) = %v", c.r, c.p, m)
		}
		c.r.Permit = !c.r.Permit
		if plist.Match(c.r, c.p) != c.want {
			t.Errorf("Match(%v, %v) depends on Permit", c.r, c.p)
		}
	}
	for _, n := range extremes {
		for _, r := range []api.PrefixRule{permit(0, 0, 0, 32), permit(0, 0, n, 32), permit(0, 0, 0, n), permit(0, n, n, n), permit(0, 0, n, n)} {
			if plist.Match(r, pre(0, n)) {
				t.Errorf("Match(%v, length %d)", r, n)
			}
		}
	}
}

// P19.2: all rules and prefixes of few bits, the first and the last ones.
func TestMatchSmall(t *testing.T) {
	for _, x := range []struct {
		in   api.Prefix
		high int
	}{{pre(0, 0), 3}, {pre(0x0a0102f8, 29), 32}} {
		prefixes := between(x.in, x.high)
		for _, r := range rulesOf(prefixes, x.high) {
			for _, p := range prefixes {
				if plist.Match(r, p) != applies(r, p) {
					t.Fatalf("Match(%v, %v) = %v", r, p, plist.Match(r, p))
				}
			}
		}
	}
}

// P19.2
func TestPermits(t *testing.T) {
	p := pre(0x0a010200, 24)
	yes, no := permit(0x0a000000, 8, 8, 24), deny(0x0a010000, 16, 16, 32)
	otherYes, otherNo := permit(0x0b000000, 8, 8, 32), deny(0x0a000000, 8, 8, 23)
	badYes, badNo := permit(0, 0, 0, 33), deny(1, 0, 0, 32)
	for i, c := range []struct {
		rules []api.PrefixRule
		want  bool
	}{
		{nil, false}, {[]api.PrefixRule{}, false}, {[]api.PrefixRule{yes}, true}, {[]api.PrefixRule{no}, false}, {[]api.PrefixRule{otherYes}, false}, {[]api.PrefixRule{otherNo}, false}, {[]api.PrefixRule{badYes}, false},
		{[]api.PrefixRule{yes, no}, true}, {[]api.PrefixRule{no, yes}, false}, {[]api.PrefixRule{otherNo, otherYes, yes, no}, true}, {[]api.PrefixRule{otherYes, otherNo, no, yes}, false},
		{[]api.PrefixRule{badNo, yes}, true}, {[]api.PrefixRule{badYes, no, yes}, false}, {[]api.PrefixRule{badYes, badNo, otherYes, otherNo}, false},
	} {
		if got := plist.Permits(c.rules, p); got != c.want || permitted(c.rules, p) != c.want {
			t.Errorf("case %d: %v", i, got)
		}
		if plist.Permits(c.rules, pre(0x0a010201, 24)) || plist.Permits(c.rules, pre(0x0a010200, 33)) {
			t.Errorf("case %d permits a prefix that is not valid", i)
		}
	}
	long := slices.Repeat([]api.PrefixRule{otherNo}, 3000)
	if plist.Permits(long, p) || !plist.Permits(append(long, yes, no), p) {
		t.Error("many rules")
	}
}

// P19.2, P19.7: what stands behind a rule that applies does not matter.
func TestAnyPermits(t *testing.T) {
	r := rand.New(rand.NewPCG(19, 2))
	permits, matches := 0, 0
	for range 20000 {
		var rules []api.PrefixRule
		for range r.IntN(6) {
			x := anyRule(r)
			if r.IntN(6) == 0 {
				x = damaged(r, x)
			}
			rules = append(rules, x)
		}
		p := anyPrefix(r)
		if r.IntN(10) == 0 {
			p = damaged(r, rule(false, p, 0, 0)).Prefix
		}
		got := plist.Permits(rules, p)
		if got != permitted(rules, p) {
			t.Fatalf("Permits(%v, %v) = %v", rules, p, got)
		}
		if got {
			permits++
		}
		first := slices.IndexFunc(rules, func(x api.PrefixRule) bool { return plist.Match(x, p) })
		if first < 0 {
			continue
		}
		matches++
		others := append(slices.Clone(rules[:first+1]), anyRule(r), anyRule(r))
		if plist.Permits(others, p) != got || plist.Permits(rules[:first+1], p) != got || rules[first].Permit != got {
			t.Fatalf("Permits(%v, %v) = %v, but %v with other rules behind", rules, p, got, !got)
		}
	}
	if permits < 1000 || matches < 2000 {
		t.Error("only", permits, "prefixes permitted, and", matches, "rules that apply")
	}
}
