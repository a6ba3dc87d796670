package compile_test

import (
	"math/rand/v2"
	"slices"
	"testing"

	"routing/api"
	"routing/apply"
	"routing/compile"
)

// route is a valid subject.
func route() api.Subject {
	return api.Subject{
		Prefix: api.Prefix{Addr: 0x0a010000, Len: 16}, Protocol: api.ProtoEBGP, NextHop: 0x0a000009, Path: []int{65001, 65002},
		Communities: []uint32{65000<<16 + 7}, Pref: 100, Metric: 5, Tag: 3,
	}
}

// P22.3: each kind of test, and its limits.
func TestHolds(t *testing.T) {
	rule := func(permit bool, low, high int) api.PrefixRule {
		return api.PrefixRule{Permit: permit, Prefix: api.Prefix{Addr: 0x0a000000, Len: 8}, Min: low, Max: high}
	}
	prefixes := func(l ...api.PrefixRule) api.Test { return api.Test{Kind: api.MatchPrefixList, Prefixes: l} }
	parts := func(l ...api.CommunityRule) api.Test {
		return api.Test{Kind: api.MatchCommunityList, Communities: l}
	}
	in := func(a api.Addr, n int) api.Test {
		return api.Test{Kind: api.MatchNextHop, Prefix: api.Prefix{Addr: a, Len: n}}
	}
	number := func(kind, n int) api.Test { return api.Test{Kind: kind, N: n} }
	// odd accepts paths with an odd number of numbers, first those that begin with 65001.
	odd := api.DFA{Starts: []int{0}, Next: [][]int{{1}, {0}}, Accept: []bool{false, true}}
	first := api.DFA{Starts: []int{0, 65001, 65002}, Next: [][]int{{1, 2, 1}, {1, 1, 1}, {2, 2, 2}}, Accept: []bool{false, false, true}}
	for _, c := range []struct {
		x    api.Test
		want bool
	}{
		{prefixes(), false}, {prefixes(rule(true, 8, 16)), true}, {prefixes(rule(true, 17, 24)), false}, {prefixes(rule(false, 16, 16), rule(true, 8, 16)), false}, {prefixes(rule(false, 17, 24), rule(true, 8, 16)), true},
		{api.Test{Kind: api.MatchPathList, Path: odd}, false}, {api.Test{Kind: api.MatchPathList, Path: first}, true}, {api.Test{Kind: api.MatchPathList, Path: all()}, true},
		{parts(), false}, {parts(api.CommunityRule{Permit: true, High: 65000, Low: -1}), true}, {parts(api.CommunityRule{Permit: true, High: 65000, Low: 6}), false}, {parts(api.CommunityRule{High: -1, Low: 7}, api.CommunityRule{Permit: true, High: -1, Low: -1}), false},
		{number(api.MatchProtocol, 6), true}, {number(api.MatchProtocol, 5), false}, {number(api.MatchProtocol, 7), false}, {tag(3), true}, {tag(2), false}, {tag(4), false}, {number(api.MatchMetric, 4), false}, {number(api.MatchMetric, 5), true}, {number(api.MatchMetric, 6), true},
		{number(api.MatchPathLength, 1), false}, {number(api.MatchPathLength, 2), true}, {number(api.MatchPathLength, 3), true}, {in(0x0a000008, 30), true}, {in(0x0a000008, 32), false}, {in(0x0a000009, 32), true}, {in(0, 0), true}, {in(0x80000000, 1), false},
	} {
		if holds := compile.Holds(c.x, route()); holds != c.want || applies(c.x, route()) != c.want {
			t.Errorf("%+v: %v", c.x, holds)
		}
	}
}

// P22.3: any tests, valid or not.
func TestHoldsAny(t *testing.T) {
	r := rand.New(rand.NewPCG(22, 3))
	count := map[bool]int{}
	broken := 0
	for range 20000 {
		x := anyTest(r)
		if r.IntN(3) == 0 {
			x = damagedTest(r, x)
		}
		s := anySubject(r)
		want := testError(x) == api.OK && applies(x, s)
		if holds := compile.Holds(x, s); holds != want {
			t.Fatalf("Holds(%+v, %+v) = %v", x, s, holds)
		}
		count[want]++
		if testError(x) != api.OK {
			broken++
		}
	}
	if count[true] < 5000 || count[false] < 5000 || broken < 3000 {
		t.Error(count, broken)
	}
}

// agreeEval fails unless Eval returns what it promises, and returns it.
func agreeEval(t *testing.T, a api.Automaton, r api.Subject) (api.Verdict, int) {
	t.Helper()
	v, n, e := compile.Eval(a, r)
	want, made, f := evaluated(a, r)
	if e != f || n != made || !equalVerdict(v, want) {
		t.Fatalf("Eval(%+v, %+v) = %+v, %d, %v instead of %+v, %d, %v", a, r, v, n, e, want, made, f)
	}
	return v, n
}

// P22.4: leaves that accept and reject, the number of branches, and the errors.
func TestEval(t *testing.T) {
	a := plain()
	for _, c := range []struct {
		tag, metric, made int
		accept            bool
		pref              int
	}{{1, 5, 2, true, 1}, {1, 6, 2, false, 0}, {2, 5, 1, true, 100}, {0, 6, 1, true, 100}} {
		r := route()
		r.Tag, r.Metric = c.tag, c.metric
		v, n := agreeEval(t, a, r)
		if v.Accept != c.accept || n != c.made || v.Route.Pref != c.pref || !v.Accept && !equalVerdict(v, api.Verdict{}) {
			t.Errorf("%+v: %+v, %d", c, v, n)
		}
	}
	for root, made := range []int{2, 1} {
		a.Root = root
		r := route()
		r.Tag = 1
		if _, n := agreeEval(t, a, r); n != made {
			t.Error(n, "branches from", root)
		}
	}
	a.Root = -3
	if v, n := agreeEval(t, a, route()); !v.Accept || n != 0 || !apply.Same(v.Route, route()) {
		t.Errorf("a leaf: %+v, %d", v, n)
	}
	for _, c := range []struct {
		a    api.Automaton
		r    api.Subject
		want api.Errno
	}{
		{plain(), api.Subject{}, api.ErrRange}, {plain(), api.Subject{Prefix: api.Prefix{Addr: 1}}, api.ErrInvalid}, {api.Automaton{Tests: []api.Test{{}}}, api.Subject{Prefix: api.Prefix{Addr: 1}}, api.ErrKind}, {api.Automaton{}, route(), api.ErrRange},
		{with(func(a *api.Automaton) { a.Leaves[1].Actions = []api.Action{setPref(1)} }), route(), api.ErrInvalid},
	} {
		agreeEval(t, c.a, c.r)
		if v, n, e := compile.Eval(c.a, c.r); e != c.want || n != 0 || !equalVerdict(v, api.Verdict{}) {
			t.Errorf("Eval(%+v, %+v) = %+v, %d, %v", c.a, c.r, v, n, e)
		}
	}
}

// P22.4, P22.9: any automata and subjects; a reduced automaton has the same verdict with no more tests.
func TestEvalAny(t *testing.T) {
	r := rand.New(rand.NewPCG(22, 44))
	accepted, less := 0, 0
	for range 20000 {
		a, s := anyTree(r), anySubject(r)
		switch r.IntN(12) {
		case 0:
			a = damaged(r, a)
		case 1:
			s = damagedSubject(r, s)
		}
		v, n := agreeEval(t, a, s)
		x, e := compile.Reduce(a)
		if e != api.OK || apply.Check(s) != api.OK {
			continue
		}
		w, m := agreeEval(t, x, s)
		if !equalVerdict(v, w) || m > n {
			t.Fatalf("Eval(%+v, %+v) = %+v, %d and not %+v, %d", x, s, w, m, v, n)
		}
		if v.Accept {
			accepted++
		}
		if m < n {
			less++
		}
	}
	if accepted < 5000 || less < 3000 {
		t.Error(accepted, "routes accepted,", less, "of them with less tests")
	}
}

// P22.8, W4: a compiled policy returns the verdict of the policy, and makes each test at most once.
func TestCompileAgrees(t *testing.T) {
	r := rand.New(rand.NewPCG(22, 8))
	given := parsed(t, lists)
	accepted, rejected := 0, 0
	for range 4000 {
		s := given
		s.Policies = []api.Policy{anyPolicy(r, "p")}
		a, e := compile.Build(s, "p")
		if e != api.OK {
			t.Fatalf("%+v: %v", s.Policies, e)
		}
		for range 10 {
			x := anySubject(r)
			want, e := apply.Run(s, "p", x)
			v, n, f := compile.Eval(a, x)
			if e != api.OK || f != api.OK || !equalVerdict(v, want) {
				t.Fatalf("%+v for %+v: %+v, %v instead of %+v, %v", s.Policies, x, v, f, want, e)
			}
			_, tests := reached(a, func(test int) bool { return applies(a.Tests[test], x) })
			slices.Sort(tests)
			if n != len(tests) || len(slices.Compact(tests)) != n {
				t.Fatalf("%+v for %+v: %d tests, and not %v", s.Policies, x, n, tests)
			}
			if v.Accept {
				accepted++
			} else {
				rejected++
			}
		}
	}
	if accepted < 10000 || rejected < 10000 {
		t.Error(accepted, "routes accepted,", rejected, "rejected")
	}
}
