package compile

import (
	"cmp"
	"slices"

	"routing/api"
	"routing/dfa"
	"routing/policy"
	"routing/regex"
)

// Build compiles a policy to a reduced automaton whose tests occur on every path in the same order.
func Build(s api.PolicySet, name string) (api.Automaton, api.Errno) {
	if err := policy.Check(s); err != api.OK {
		return api.Automaton{}, err
	}
	p, ok := policy.Find(s, name)
	if !ok {
		return api.Automaton{}, api.ErrNotFound
	}
	found := tests{set: s, numbers: map[api.Match]int{}}
	needed := make([][]condition, len(p.Terms))
	for i, t := range p.Terms {
		var err api.Errno
		if needed[i], err = found.conditions(t); err != api.OK {
			return api.Automaton{}, err
		}
	}
	if len(found.list) > api.MaxEntries {
		return api.Automaton{}, api.ErrTooLong
	}
	d := newDiagram()
	root := verdictLeaf(p.Default)
	for i := len(p.Terms) - 1; i >= 0; i-- {
		root = d.term(p.Terms[i], needed[i], root)
		if !d.fits(root) {
			return api.Automaton{}, api.ErrFull
		}
	}
	return d.automaton(found.list, root), api.OK
}

// verdictLeaf returns the number of the leaf of a verdict without actions.
func verdictLeaf(verdict int) int {
	if verdict == api.Accept {
		return accepts(0)
	}
	return rejects
}

// condition is the result that a test must have.
type condition struct {
	test   int
	result bool
}

// tests are the different tests of the matches of a valid set, in the order of their first occurrence.
type tests struct {
	set     api.PolicySet
	list    []api.Test
	numbers map[api.Match]int // of the tests, by matches without Not
}

// conditions returns what the matches of a term need, ascending by test.
func (l *tests) conditions(t api.Term) ([]condition, api.Errno) {
	var needed []condition
	for _, m := range t.Matches {
		test, err := l.number(m)
		if err != api.OK {
			return nil, err
		}
		needed = append(needed, condition{test: test, result: !m.Not})
	}
	slices.SortFunc(needed, func(a, b condition) int { return cmp.Compare(a.test, b.test) })
	return needed, api.OK
}

// number returns the number of the test of a match, a new one if no test before is equal to it.
func (l *tests) number(m api.Match) (int, api.Errno) {
	m.Not = false
	if n, ok := l.numbers[m]; ok {
		return n, api.OK
	}
	t, err := l.test(m)
	if err != api.OK {
		return 0, err
	}
	n := slices.IndexFunc(l.list, func(other api.Test) bool { return sameTest(other, t) })
	if n < 0 {
		n = len(l.list)
		l.list = append(l.list, t)
	}
	l.numbers[m] = n
	return n, api.OK
}

// test returns the test of a match.
func (l *tests) test(m api.Match) (api.Test, api.Errno) {
	t := api.Test{Kind: m.Kind, N: m.N, Prefix: m.Prefix}
	err := api.OK
	switch m.Kind {
	case api.MatchPrefixList:
		i := slices.IndexFunc(l.set.Prefixes, func(l api.PrefixList) bool { return l.Name == m.Name })
		t.Prefixes = l.set.Prefixes[i].Rules
	case api.MatchPathList:
		i := slices.IndexFunc(l.set.Paths, func(l api.PathList) bool { return l.Name == m.Name })
		t.Path, err = permitted(l.set.Paths[i].Rules)
	case api.MatchCommunityList:
		i := slices.IndexFunc(l.set.Communities, func(l api.CommunityList) bool { return l.Name == m.Name })
		t.Communities = l.set.Communities[i].Rules
	}
	return t, err
}

// permitted returns the minimal automaton for the paths that valid rules permit.
func permitted(rules []api.PathRule) (api.DFA, api.Errno) {
	d, err := dfa.Build(api.Regex{Kind: api.ReAlt})
	for i := len(rules) - 1; i >= 0 && err == api.OK; i-- {
		d, err = preceded(rules[i], d)
	}
	return d, err
}

// preceded returns the minimal automaton for the paths that a rule permits, or that it does not match and d accepts.
func preceded(r api.PathRule, d api.DFA) (api.DFA, api.Errno) {
	pattern, err := regex.Parse(r.Pattern)
	if err != api.OK {
		return api.DFA{}, err
	}
	m, err := dfa.Build(pattern)
	if err != api.OK {
		return api.DFA{}, err
	}
	if !r.Permit {
		return dfa.Both(dfa.Not(m), d)
	}
	neither, err := dfa.Both(dfa.Not(m), dfa.Not(d))
	if err != api.OK {
		return api.DFA{}, err
	}
	return dfa.Not(neither), api.OK
}

// failed stands for a number of conditions of which one is not met.
const failed = -1

// state is a state on the way through a term and, at the same time, through what follows it: how many conditions of the
// term are met, and the node behind it.
type state struct {
	met, node int
}

// term returns the node for a term with its conditions, ascending by test, that is followed by the node rest.
func (d *diagram) term(t api.Term, needed []condition, rest int) int {
	arrive := func(x state) state {
		if x.met == len(needed) && t.Verdict != api.NextTerm {
			x.node = verdictLeaf(t.Verdict)
		}
		return x
	}
	after := func(x state, test int, result bool) state {
		x.node = d.after(x.node, test, result)
		for x.met != failed && x.met < len(needed) && needed[x.met].test == test {
			x.met++
			if needed[x.met-1].result != result {
				x.met = failed
			}
		}
		return arrive(x)
	}
	successors := func(x state) (fork[state], bool) {
		test := d.test(x.node)
		if x.met != failed && x.met < len(needed) {
			test = min(test, needed[x.met].test)
		}
		if x.met == failed || test == noTest {
			return fork[state]{}, false
		}
		return fork[state]{test: test, yes: after(x, test, true), no: after(x, test, false)}, true
	}
	return node(d, arrive(state{node: rest}), successors, func(x state) int {
		if x.met == failed || x.node == rejects {
			return x.node
		}
		return accepts(d.before(t.Actions, placeOf(x.node)))
	})
}
