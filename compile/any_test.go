package compile_test

import (
	"math"
	"math/rand/v2"
	"slices"
	"strconv"

	"routing/api"
)

func pick[T any](r *rand.Rand, l ...T) T { return l[r.IntN(len(l))] }

func several[T any](r *rand.Rand, most int, one func(*rand.Rand) T) []T {
	var l []T
	for range r.IntN(most + 1) {
		l = append(l, one(r))
	}
	return l
}

var wrong = []int{math.MinInt, -1 << 32, -5, -2, -1, 0, 1, 2, 3, 7, 8, 9, 33, 2001, 65536, maxCost + 1, maxNumber + 1, math.MaxInt}

// anySubject returns a valid subject, for which about half of the matches of anyMatch hold.
func anySubject(r *rand.Rand) api.Subject {
	s := api.Subject{
		Prefix:   pick(r, api.Prefix{}, api.Prefix{Addr: 0x0a000000, Len: 8}, api.Prefix{Addr: 0x0a010000, Len: 16}, api.Prefix{Addr: 0x0a020300, Len: 24}, api.Prefix{Addr: 0x0a020304, Len: 32}),
		Protocol: pick(r, 1, 6, 6, 7),
		NextHop:  pick[api.Addr](r, 0, 0x0a000001, 0x0a000002, 0x0b000001, math.MaxUint32),
		Path:     several(r, 3, func(r *rand.Rand) int { return pick(r, 65001, 65001, 65002, 65003, 1, maxNumber) }),
		Pref:     pick(r, 0, 100, maxNumber), MED: pick(r, 0, 5, maxNumber), Metric: pick(r, 0, 5, 6, maxCost), Tag: pick(r, 0, 3, 7, maxNumber),
	}
	s.Communities = several(r, 2, func(r *rand.Rand) uint32 { return pick[uint32](r, 65000<<16+1, 65000<<16+2, 0) })
	slices.Sort(s.Communities)
	s.Communities = slices.Compact(s.Communities)
	return s
}

// damagedSubject returns a subject that is not valid.
func damagedSubject(r *rand.Rand, s api.Subject) api.Subject {
	switch r.IntN(4) {
	case 0:
		s.Prefix = api.Prefix{Addr: 1, Len: pick(r, 0, 31, 33)}
	case 1:
		s.Protocol = pick(r, -1, 0, 8)
	case 2:
		s.Path = append(slices.Clone(s.Path), pick(r, -1, 0, maxNumber+1))
	case 3:
		s.Communities = []uint32{2, 1}
	}
	return s
}

// anyMatch returns a valid match for a set with the lists of these tests.
func anyMatch(r *rand.Rand) api.Match {
	m := api.Match{Kind: 1 + r.IntN(8)}
	switch m.Kind {
	case api.MatchPrefixList:
		m.Name = pick(r, "again", "other", "own", "none")
	case api.MatchPathList:
		m.Name = pick(r, "again", "all", "from", "other", "none")
	case api.MatchCommunityList:
		m.Name = pick(r, "again", "blue", "none")
	case api.MatchProtocol:
		m.N = pick(r, 6, 7)
	case api.MatchTag:
		m.N = pick(r, 0, 3)
	case api.MatchMetric:
		m.N = pick(r, 0, 5, maxCost)
	case api.MatchNextHop:
		m.Prefix = pick(r, api.Prefix{}, api.Prefix{Addr: 0x0a000000, Len: 8}, api.Prefix{Addr: 0x0a000001, Len: 32})
	case api.MatchPathLength:
		m.N = pick(r, 0, 1, 2)
	}
	return m
}

// anyAction returns one of few valid actions.
func anyAction(r *rand.Rand) api.Action {
	return pick(r, api.Action{Kind: api.SetTag, N: 3}, api.Action{Kind: api.SetTag, N: 4}, api.Action{Kind: api.Prepend, AS: 9, N: 2}, api.Action{Kind: api.AddCommunity, Community: 1})
}

// anyPolicy returns a valid policy with few matches, each of which occurs in several terms.
func anyPolicy(r *rand.Rand, name string) api.Policy {
	matches := append(several(r, 4, anyMatch), anyMatch(r))
	p := api.Policy{Name: name, Default: 1 + r.IntN(2)}
	p.Terms = several(r, 6, func(r *rand.Rand) api.Term {
		return api.Term{
			Matches: several(r, 3, func(r *rand.Rand) api.Match {
				m := pick(r, matches...)
				m.Not = r.IntN(3) == 0
				return m
			}),
			Actions: several(r, 2, anyAction), Verdict: pick(r, 1, 2, 3, 3),
		}
	})
	for i := range p.Terms {
		p.Terms[i].Name = strconv.Itoa(i)
	}
	return p
}

// anyTest returns a valid test.
func anyTest(r *rand.Rand) api.Test {
	t := api.Test{Kind: 1 + r.IntN(8)}
	switch t.Kind {
	case api.MatchPrefixList:
		t.Prefixes = several(r, 2, func(r *rand.Rand) api.PrefixRule {
			return api.PrefixRule{Permit: r.IntN(3) > 0, Prefix: pick(r, api.Prefix{}, api.Prefix{Addr: 0x0a000000, Len: 8}, api.Prefix{Addr: 0x0a010000, Len: 16}), Min: 16, Max: 16 + r.IntN(17)}
		})
	case api.MatchPathList:
		t.Path = anyAutomaton(r)
	case api.MatchCommunityList:
		t.Communities = several(r, 2, func(r *rand.Rand) api.CommunityRule {
			return api.CommunityRule{Permit: r.IntN(3) > 0, High: pick(r, -1, 0, 65000), Low: pick(r, -1, 0, 1, 2)}
		})
	case api.MatchNextHop:
		t.Prefix = anyMatchOf(r, t.Kind).Prefix
	default:
		t.N = anyMatchOf(r, t.Kind).N
	}
	return t
}

// anyMatchOf returns a valid match of a kind.
func anyMatchOf(r *rand.Rand, kind int) api.Match {
	for {
		if m := anyMatch(r); m.Kind == kind {
			return m
		}
	}
}

// anyAutomaton returns a well-formed automaton over AS paths.
func anyAutomaton(r *rand.Rand) api.DFA {
	states := 1 + r.IntN(3)
	d := api.DFA{Starts: []int{0}, Start: r.IntN(states)}
	for _, start := range []int{65001, 65002, 65003} {
		if r.IntN(2) == 0 {
			d.Starts = append(d.Starts, start)
		}
	}
	for range states {
		var row []int
		for range d.Starts {
			row = append(row, r.IntN(states))
		}
		d.Next, d.Accept = append(d.Next, row), append(d.Accept, r.IntN(2) == 0)
	}
	return d
}

// anyTree returns a well-formed automaton, often with nodes that are equal or that cannot be reached.
func anyTree(r *rand.Rand) api.Automaton {
	a := api.Automaton{Tests: several(r, 5, anyTest)}
	for range 1 + r.IntN(6) {
		l := api.Leaf{Accept: r.IntN(3) > 0}
		if l.Accept {
			l.Actions = several(r, 2, anyAction)
		}
		a.Leaves = append(a.Leaves, l)
	}
	if len(a.Tests) > 0 {
		for range r.IntN(12) {
			a.Branches = append(a.Branches, api.Branch{Test: r.IntN(len(a.Tests))})
		}
	}
	if r.IntN(2) == 0 {
		slices.SortFunc(a.Branches, func(x, y api.Branch) int { return x.Test - y.Test })
	}
	// node returns a leaf or, more often, a branch that may stand below a test.
	node := func(test int) int {
		var l []int
		for n, b := range a.Branches {
			if b.Test > test {
				l = append(l, n)
			}
		}
		if len(l) == 0 || r.IntN(6) == 0 {
			return -1 - r.IntN(len(a.Leaves))
		}
		return pick(r, l[:1+r.IntN(len(l))]...)
	}
	for i, b := range a.Branches {
		a.Branches[i].Yes, a.Branches[i].No = node(b.Test), node(b.Test)
	}
	a.Root = node(-1)
	return a
}

// damagedTest returns a test that is mostly not valid.
func damagedTest(r *rand.Rand, t api.Test) api.Test {
	t = copiedTest(t)
	switch r.IntN(7) {
	case 0:
		t.Kind = pick(r, wrong...)
	case 1:
		t.N = pick(r, wrong...)
	case 2:
		t.Prefix = pick(r, api.Prefix{Addr: 1}, api.Prefix{Len: 33}, api.Prefix{Len: 32}, api.Prefix{Len: -1})
	case 3:
		t.Prefixes = append(t.Prefixes, api.PrefixRule{Prefix: api.Prefix{Addr: pick[api.Addr](r, 0, 1)}, Max: pick(r, 0, 32, 33)})
	case 4:
		t.Communities = append(t.Communities, api.CommunityRule{High: pick(r, wrong...), Low: pick(r, -1, 0, 65535, pick(r, wrong...))})
	case 5:
		t.Path.Start = pick(r, wrong...)
	case 6:
		t.Prefixes, t.Communities, t.Path.Accept = slices.Repeat(t.Prefixes, pick(r, 1, 33, 65)), slices.Repeat(t.Communities, pick(r, 1, 33, 65)), append(t.Path.Accept, true)
	}
	return t
}

// damaged returns an automaton that is mostly not well formed.
func damaged(r *rand.Rand, a api.Automaton) api.Automaton {
	a = copied(a)
	n := len(a.Branches)
	switch r.IntN(9) {
	case 0:
		a.Tests = slices.Repeat(a.Tests, pick(r, 0, 2, 2001))
	case 1:
		a.Leaves = slices.Repeat(a.Leaves, pick(r, 0, 2, 4097))
	case 2:
		a.Root = pick(r, wrong...)
	case 3, 4:
		if len(a.Tests) > 0 {
			i := r.IntN(len(a.Tests))
			a.Tests[i] = damagedTest(r, a.Tests[i])
		}
	case 5, 6:
		if n > 0 {
			b := &a.Branches[r.IntN(n)]
			*b = pick(r, api.Branch{Test: pick(r, wrong...), Yes: b.Yes, No: b.No}, api.Branch{Test: b.Test, Yes: pick(r, wrong...), No: b.No}, api.Branch{Test: b.Test, Yes: b.Yes, No: pick(r, wrong...)})
		}
	case 7:
		l := &a.Leaves[r.IntN(len(a.Leaves))]
		l.Accept = !l.Accept
	case 8:
		l := &a.Leaves[r.IntN(len(a.Leaves))]
		l.Actions = append(l.Actions, api.Action{Kind: pick(r, 0, 1, 5, 8, 9), N: pick(r, wrong...), AS: pick(r, 0, 1), Addr: pick[api.Addr](r, 0, 1)})
	}
	return a
}
