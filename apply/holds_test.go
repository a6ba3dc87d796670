package apply_test

import (
	"fmt"
	"math/rand/v2"
	"slices"
	"testing"

	"routing/api"
	"routing/apply"
)

// P21.2: each kind of match, and its limits.
func TestHolds(t *testing.T) {
	s := parsed(t, lists)
	own := func(a api.Addr, n int) api.Subject {
		return with(func(s *api.Subject) { s.Prefix = api.Prefix{Addr: a, Len: n} })
	}
	path := func(l ...int) api.Subject { return with(func(s *api.Subject) { s.Path = l }) }
	blue := func(l ...uint32) api.Subject { return with(func(s *api.Subject) { s.Communities = l }) }
	hop := func(a api.Addr) api.Subject { return with(func(s *api.Subject) { s.NextHop = a }) }
	list := func(kind int, name string) api.Match { return api.Match{Kind: kind, Name: name} }
	number := func(kind, n int) api.Match { return api.Match{Kind: kind, N: n} }
	in := func(a api.Addr, n int) api.Match {
		return api.Match{Kind: api.MatchNextHop, Prefix: api.Prefix{Addr: a, Len: n}}
	}
	for _, c := range []struct {
		m    api.Match
		r    api.Subject
		want bool
	}{
		{list(api.MatchPrefixList, "own"), own(0x0a000000, 8), true}, {list(api.MatchPrefixList, "own"), own(0x0a020000, 16), true}, {list(api.MatchPrefixList, "own"), own(0x0a010000, 16), false}, {list(api.MatchPrefixList, "own"), own(0x0a020304, 32), false}, {list(api.MatchPrefixList, "own"), own(0, 0), false},
		{list(api.MatchPrefixList, "all"), own(0, 0), true}, {list(api.MatchPrefixList, "none"), own(0, 0), false},
		{list(api.MatchPathList, "from"), path(65001, 65002), true}, {list(api.MatchPathList, "from"), path(65002, 65001), false}, {list(api.MatchPathList, "from"), path(65003, 65001), false}, {list(api.MatchPathList, "from"), path(), false},
		{list(api.MatchPathList, "through"), path(1, 65003, 1), true}, {list(api.MatchPathList, "through"), path(1, 65004, 1), false}, {list(api.MatchPathList, "none"), path(), false},
		{list(api.MatchCommunityList, "blue"), blue(65000 << 16), true}, {list(api.MatchCommunityList, "blue"), blue(65000<<16, 65000<<16+1), false}, {list(api.MatchCommunityList, "blue"), blue(64999<<16, 65001<<16), false}, {list(api.MatchCommunityList, "blue"), blue(), false},
		{list(api.MatchCommunityList, "well"), blue(1, api.NoExport), true}, {list(api.MatchCommunityList, "none"), blue(1), false},
		{number(api.MatchProtocol, api.ProtoEBGP), plain(), true}, {number(api.MatchProtocol, api.ProtoIBGP), plain(), false}, {number(api.MatchProtocol, api.ProtoExternal), plain(), false},
		{number(api.MatchTag, 3), plain(), true}, {number(api.MatchTag, 2), plain(), false}, {number(api.MatchTag, 4), plain(), false}, {number(api.MatchTag, maxNumber), plain(), false},
		{number(api.MatchMetric, 4), plain(), false}, {number(api.MatchMetric, 5), plain(), true}, {number(api.MatchMetric, 6), plain(), true}, {number(api.MatchMetric, 0), plain(), false}, {number(api.MatchMetric, maxCost), plain(), true},
		{number(api.MatchPathLength, 1), plain(), false}, {number(api.MatchPathLength, 2), plain(), true}, {number(api.MatchPathLength, 3), plain(), true}, {number(api.MatchPathLength, 0), path(), true}, {number(api.MatchPathLength, 0), plain(), false},
		{number(api.MatchPathLength, 1999), path(slices.Repeat([]int{1}, 2000)...), false}, {number(api.MatchPathLength, 2000), path(slices.Repeat([]int{1}, 2000)...), true},
		{in(0x0a000008, 30), plain(), true}, {in(0x0a000009, 32), plain(), true}, {in(0x0a000008, 32), plain(), false}, {in(0x0a00000c, 30), plain(), false}, {in(0, 0), hop(0xffffffff), true}, {in(0, 0), hop(0), true}, {in(0x80000000, 1), hop(0x7fffffff), false}, {in(0x0a000000, 8), hop(0x0affffff), true}, {in(0x0a000000, 8), hop(0x0b000000), false},
	} {
		if applies(s, c.m, c.r) != c.want {
			t.Errorf("%+v for %+v should be %v", c.m, c.r, c.want)
		}
		for _, not := range []bool{false, true} {
			c.m.Not = not
			if holds, e := apply.Holds(s, c.m, c.r); holds != (c.want != not) || e != api.OK {
				t.Errorf("Holds(%+v, %+v) = %v, %v", c.m, c.r, holds, e)
			}
		}
	}
}

// P21.2: the first pattern that matches decides.
func TestHoldsFirstPattern(t *testing.T) {
	for text, want := range map[string]bool{
		"permit 1\ndeny 1\n": true, "deny 1\npermit 1\n": false, "deny 2\npermit 1\n": true, "permit 2\ndeny .\n": false, "permit !\n": false, "permit ()\n": false, "deny ()\npermit .?\n": true, "deny 1 .*\n": false,
		"deny 2\ndeny 3\npermit [0-1]\ndeny 1\n": true,
	} {
		s := parsed(t, "path-list p\n"+text)
		r := with(func(s *api.Subject) { s.Path = []int{1} })
		if holds, e := apply.Holds(s, api.Match{Kind: api.MatchPathList, Name: "p"}, r); holds != want || e != api.OK {
			t.Errorf("%q: %v, %v", text, holds, e)
		}
	}
}

// P21.2: the errors of the set, of the match and of the subject, in this order.
func TestHoldsErrors(t *testing.T) {
	good := parsed(t, lists+"policy p\ndefault accept\n")
	bad := good
	bad.Policies = []api.Policy{{Name: "p"}}
	unknown := good
	unknown.Policies = []api.Policy{{Name: "p", Terms: []api.Term{{Name: "t", Matches: []api.Match{{Kind: api.MatchPathList, Name: "own"}}, Verdict: api.Accept}}, Default: api.Accept}}
	for _, c := range []struct {
		s    api.PolicySet
		m    api.Match
		r    api.Subject
		want api.Errno
	}{
		{good, api.Match{Kind: api.MatchTag}, plain(), api.OK},
		{bad, api.Match{Kind: api.MatchTag}, plain(), api.ErrKind}, {bad, api.Match{Kind: api.MatchTag, N: -1}, api.Subject{Prefix: api.Prefix{Addr: 1}}, api.ErrKind}, {unknown, api.Match{Kind: 9}, plain(), api.ErrNotFound},
		{api.PolicySet{Paths: make([]api.PathList, 65)}, api.Match{}, api.Subject{}, api.ErrTooLong},
		{good, api.Match{}, plain(), api.ErrKind}, {good, api.Match{Kind: 9}, plain(), api.ErrKind}, {good, api.Match{Kind: -1, N: 1, Name: "own"}, plain(), api.ErrKind},
		{good, api.Match{Kind: api.MatchTag, Name: "own"}, plain(), api.ErrInvalid}, {good, api.Match{Kind: api.MatchPrefixList, Name: "own", N: 1}, plain(), api.ErrInvalid}, {good, api.Match{Kind: api.MatchTag, N: -1, Prefix: api.Prefix{Len: 1}}, plain(), api.ErrInvalid},
		{good, api.Match{Kind: api.MatchPrefixList, Name: "from"}, plain(), api.ErrNotFound}, {good, api.Match{Kind: api.MatchPathList}, plain(), api.ErrNotFound}, {good, api.Match{Kind: api.MatchCommunityList, Name: "own"}, plain(), api.ErrNotFound}, {good, api.Match{Kind: api.MatchPrefixList, Name: "p"}, plain(), api.ErrNotFound},
		{good, api.Match{Kind: api.MatchProtocol}, plain(), api.ErrRange}, {good, api.Match{Kind: api.MatchProtocol, N: 8}, plain(), api.ErrRange}, {good, api.Match{Kind: api.MatchTag, N: maxNumber + 1}, plain(), api.ErrRange}, {good, api.Match{Kind: api.MatchMetric, N: maxCost + 1}, plain(), api.ErrRange}, {good, api.Match{Kind: api.MatchPathLength, N: 2001}, plain(), api.ErrRange},
		{good, api.Match{Kind: api.MatchNextHop, Prefix: api.Prefix{Addr: 1}}, plain(), api.ErrInvalid}, {good, api.Match{Kind: api.MatchNextHop, Prefix: api.Prefix{Len: 33}}, plain(), api.ErrInvalid},
		{good, api.Match{Kind: api.MatchProtocol}, api.Subject{Prefix: api.Prefix{Addr: 1}}, api.ErrRange}, {good, api.Match{Kind: 9}, api.Subject{}, api.ErrKind},
		{good, api.Match{Kind: api.MatchTag, Not: true}, api.Subject{}, api.ErrRange}, {good, api.Match{Kind: api.MatchTag, Not: true}, api.Subject{Prefix: api.Prefix{Addr: 1}}, api.ErrInvalid},
	} {
		for _, not := range []bool{false, true} {
			c.m.Not = c.m.Not || not
			if holds, e := apply.Holds(c.s, c.m, c.r); e != c.want || e != api.OK && holds {
				t.Errorf("Holds(%+v, %+v, %+v) = %v, %v instead of %v", c.s.Policies, c.m, c.r, holds, e, c.want)
			}
		}
	}
}

// P21.2: a match is checked for its own sake, also if the set has no room for another policy.
func TestHoldsFullSet(t *testing.T) {
	s := parsed(t, lists)
	for i := range 64 {
		s.Policies = append(s.Policies, api.Policy{Name: fmt.Sprintf("zzzz%02d", i), Default: api.Accept})
	}
	full := parsed(t, lists)
	full.Policies = []api.Policy{{Name: "a", Default: api.Accept}}
	for i := range 64 {
		full.Policies[0].Terms = append(full.Policies[0].Terms, api.Term{Name: fmt.Sprint("t", i), Matches: slices.Repeat([]api.Match{{Kind: api.MatchTag}}, 64), Verdict: api.NextTerm})
	}
	for _, x := range []api.PolicySet{s, full} {
		if holds, e := apply.Holds(x, api.Match{Kind: api.MatchTag, N: 3}, plain()); !holds || e != api.OK {
			t.Error(holds, e)
		}
		if holds, e := apply.Holds(x, api.Match{Kind: api.MatchTag, N: -1}, plain()); holds || e != api.ErrRange {
			t.Error(holds, e)
		}
	}
}

// P21.2
func TestHoldsAny(t *testing.T) {
	r := rand.New(rand.NewPCG(21, 2))
	given := parsed(t, lists)
	count := map[bool]int{}
	for range 20000 {
		s, _ := anySet(r, given)
		m, x := anyMatch(r), anySubject(r)
		if r.IntN(8) == 0 {
			s = damagedSet(r, s)
		}
		if r.IntN(8) == 0 {
			m = damagedMatch(r, m)
		}
		if r.IntN(8) == 0 {
			x = damagedSubject(r, x)
		}
		_, _, want := run(s, s.Policies[0].Name, plain())
		if want == api.OK {
			want = matchError(s, m)
		}
		if want == api.OK {
			want = checked(x)
		}
		holds, e := apply.Holds(s, m, x)
		if e != want || holds != (e == api.OK && applies(s, m, x)) {
			t.Fatalf("Holds(%+v, %+v, %+v) = %v, %v instead of %v", s, m, x, holds, e, want)
		}
		if e == api.OK {
			count[holds]++
		}
	}
	if count[true] < 5000 || count[false] < 5000 {
		t.Error(count)
	}
}
