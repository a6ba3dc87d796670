package community_test

import (
	"math"
	"math/rand/v2"
	"testing"

	"routing/api"
	"routing/community"
)

// P18.5
func TestMatch(t *testing.T) {
	l := []uint32{7, 65000<<16 + 7, 65535<<16 + 65535, 3 << 16}
	for _, c := range []struct {
		high, low int
		want      bool
	}{
		{65000, 7, true}, {65000, -1, true}, {-1, 7, true}, {-1, -1, true}, {0, 7, true}, {0, -1, true}, {-1, 0, true}, {3, 0, true}, {65535, 65535, true}, {65535, -1, true}, {-1, 65535, true},
		{65000, 8, false}, {65001, 7, false}, {65001, -1, false}, {-1, 8, false}, {0, 0, false}, {3, 7, false}, {65535, 7, false}, {7, 65000, false}, {7, -1, false}, {-1, 65000, false}, {-1, 3, false},
		// Parts that no community has.
		{-2, -1, false}, {-1, -2, false}, {-2, -2, false}, {65536, -1, false}, {-1, 65536, false}, {-1, 65536 + 7, false}, {65536 + 65000, 7, false}, {1<<32 + 3, 0, false}, {3, 1 << 32, false}, {math.MinInt, -1, false}, {-1, math.MinInt, false}, {math.MaxInt, -1, false}, {-1, math.MaxInt, false}, {1<<32 - 1, -1, false}, {-1, 1<<32 - 1, false}, {0, -65536 + 7, false}, {-65536 + 65000, 7, false},
	} {
		for _, permit := range []bool{false, true} {
			r := api.CommunityRule{Permit: permit, High: c.high, Low: c.low}
			if m := community.Match(r, l); m != c.want || applies(r, l) != c.want {
				t.Errorf("Match(%v) = %v", r, m)
			}
			if community.Match(r, nil) || community.Match(r, []uint32{}) {
				t.Errorf("%v applies to an empty list", r)
			}
		}
	}
	if !community.Match(api.CommunityRule{High: 65000, Low: -1}, []uint32{4259840100}) {
		t.Error("the example")
	}
	// Lists that are not valid.
	long := append(count(0, 1000, 2), 5<<16, 5<<16, 1)
	if !community.Match(api.CommunityRule{High: 5, Low: 0}, long) || !community.Match(api.CommunityRule{High: 0, Low: 1998}, long) || !community.Match(api.CommunityRule{High: -1, Low: 1}, long) || community.Match(api.CommunityRule{High: -1, Low: 3}, long) {
		t.Error("a long list")
	}
}

// P18.5
func TestPermits(t *testing.T) {
	l := []uint32{65000<<16 + 7, 65001<<16 + 8}
	permit := func(high, low int) api.CommunityRule {
		return api.CommunityRule{Permit: true, High: high, Low: low}
	}
	deny := func(high, low int) api.CommunityRule { return api.CommunityRule{High: high, Low: low} }
	for i, c := range []struct {
		rules []api.CommunityRule
		want  bool
	}{
		{nil, false}, {[]api.CommunityRule{permit(-1, -1)}, true}, {[]api.CommunityRule{deny(-1, -1)}, false}, {[]api.CommunityRule{permit(65000, 8)}, false}, {[]api.CommunityRule{permit(65000, 7)}, true}, {[]api.CommunityRule{deny(65000, 8)}, false}, {[]api.CommunityRule{deny(65000, 8), deny(9, 9)}, false},
		{[]api.CommunityRule{permit(65000, 7), deny(-1, -1)}, true}, {[]api.CommunityRule{deny(65000, 7), permit(-1, -1)}, false}, {[]api.CommunityRule{deny(65000, 8), permit(-1, -1)}, true}, {[]api.CommunityRule{permit(65000, 8), deny(-1, -1)}, false}, {[]api.CommunityRule{permit(1, 1), deny(2, 2), permit(-1, 8), deny(65000, 7)}, true}, {[]api.CommunityRule{permit(1, 1), deny(2, 2), deny(65000, 7), permit(-1, 8)}, false},
		// The order of the rules counts, not that of the communities.
		{[]api.CommunityRule{permit(65001, 8), deny(65000, 7)}, true}, {[]api.CommunityRule{deny(65001, 8), permit(65000, 7)}, false},
		{[]api.CommunityRule{permit(-2, 7), permit(65000, 65543)}, false}, {[]api.CommunityRule{deny(-2, 7), permit(65001, -1)}, true},
	} {
		if p := community.Permits(c.rules, l); p != c.want || permitted(c.rules, l) != c.want {
			t.Errorf("case %d: %v", i, p)
		}
		if community.Permits(c.rules, nil) {
			t.Errorf("case %d permits an empty list", i)
		}
	}
	var long []api.CommunityRule
	for i := range 1000 {
		long = append(long, deny(i, 9))
	}
	if community.Permits(long, l) || !community.Permits(append(long, permit(65000, -1)), l) {
		t.Error("many rules")
	}
}

// P18.5
func TestAnyRules(t *testing.T) {
	r := rand.New(rand.NewPCG(18, 7))
	part := func(p int) int { return []int{-1, p, r.IntN(4), r.IntN(5) - 2, 65535, 65536}[r.IntN(6)] }
	matches, permits := 0, 0
	for range 50000 {
		l := anyList(r)
		c := anyCommunity(r)
		if len(l) > 0 {
			c = l[r.IntN(len(l))]
		}
		var rules []api.CommunityRule
		for range r.IntN(5) {
			rules = append(rules, api.CommunityRule{Permit: r.IntN(2) == 0, High: part(int(c) / 65536), Low: part(int(c) % 65536)})
		}
		for _, rule := range rules {
			if m := community.Match(rule, l); m != applies(rule, l) {
				t.Fatalf("Match(%v, %v) = %v", rule, l, m)
			} else if m {
				matches++
			}
		}
		if p := community.Permits(rules, l); p != permitted(rules, l) {
			t.Fatalf("Permits(%v, %v) = %v", rules, l, p)
		} else if p {
			permits++
		}
	}
	if matches < 1000 || permits < 1000 {
		t.Error("only", matches, "rules apply, and", permits, "lists of rules permit")
	}
}
