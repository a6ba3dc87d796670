package compile_test

import (
	"fmt"
	"reflect"
	"slices"
	"testing"

	"routing/api"
	"routing/apply"
	"routing/community"
	"routing/dfa"
	"routing/plist"
	"routing/policy"
	"routing/prefix"
	"routing/regex"
)

// The limits of the document.
const (
	maxNumber  = 4294967295
	maxCost    = 16777216
	maxEntries = 2000
	maxStates  = 4096
	maxList    = 64
)

// lists are lists of the sets of these tests; some of them have the same rules, or permit the same paths.
const lists = `prefix-list again
deny 10.1.0.0/16 16-24
permit 10.0.0.0/8 8-24
prefix-list none
prefix-list other
permit 10.0.0.0/8 8-24
prefix-list own
deny 10.1.0.0/16 16-24
permit 10.0.0.0/8 8-24
path-list again
permit 65001
permit 65001 .+
path-list all
permit 65002
permit .*
path-list from
permit 65001 .*
path-list none
deny 65001
path-list other
deny 65001 65002 .*
permit .* [65002-65003] .*
permit ()
community-list again
deny 65000:1
permit 65000:*
community-list blue
deny 65000:1
permit 65000:*
community-list none
`

// parsed is the set of a text.
func parsed(t *testing.T, text string) api.PolicySet {
	t.Helper()
	s, line, e := policy.Parse(text)
	if e != api.OK {
		t.Fatal("line", line, e)
	}
	return s
}

// testError is the error of Check for a test.
func testError(t api.Test) api.Errno {
	field := map[int]string{1: "Prefixes", 2: "Path", 3: "Communities", 4: "N", 5: "N", 6: "N", 7: "Prefix", 8: "N"}[t.Kind]
	used := map[string]bool{
		"Prefixes": len(t.Prefixes) > 0, "Communities": len(t.Communities) > 0, "N": t.N != 0, "Prefix": t.Prefix != api.Prefix{},
		"Path": t.Path.Start != 0 || len(t.Path.Starts) > 0 || len(t.Path.Next) > 0 || len(t.Path.Accept) > 0,
	}
	if field == "" {
		return api.ErrKind
	}
	for other, is := range used {
		if is && other != field {
			return api.ErrInvalid
		}
	}
	if len(t.Prefixes) > maxList || len(t.Communities) > maxList {
		return api.ErrTooLong
	}
	switch field {
	case "Prefixes":
		for _, r := range t.Prefixes {
			if e := plist.Check(r); e != api.OK {
				return e
			}
		}
	case "Path":
		return dfa.Check(t.Path)
	case "Communities":
		for _, r := range t.Communities {
			if r.High < -1 || r.High > 65535 || r.Low < -1 || r.Low > 65535 {
				return api.ErrRange
			}
		}
	case "N":
		limits := map[int][2]int{4: {1, 7}, 5: {0, maxNumber}, 6: {0, maxCost}, 8: {0, maxEntries}}[t.Kind]
		if t.N < limits[0] || t.N > limits[1] {
			return api.ErrRange
		}
	case "Prefix":
		if prefix.Text(t.Prefix) == "" {
			return api.ErrInvalid
		}
	}
	return api.OK
}

// validAction reports whether policy.Check accepts an action.
func validAction(a api.Action) bool {
	t := api.Term{Name: "t", Actions: []api.Action{a}, Verdict: api.Reject}
	return policy.Check(api.PolicySet{Policies: []api.Policy{{Name: "p", Terms: []api.Term{t}, Default: api.Reject}}}) == api.OK
}

// checked is the promise of Check.
func checked(a api.Automaton) api.Errno {
	if len(a.Tests) > maxEntries || len(a.Branches) > maxStates || len(a.Leaves) > maxStates {
		return api.ErrTooLong
	}
	for _, t := range a.Tests {
		if e := testError(t); e != api.OK {
			return e
		}
	}
	exists := func(n int) bool { return n >= -len(a.Leaves) && n < len(a.Branches) }
	if !exists(a.Root) {
		return api.ErrRange
	}
	for _, b := range a.Branches {
		if b.Test < 0 || b.Test >= len(a.Tests) || !exists(b.Yes) || !exists(b.No) {
			return api.ErrRange
		}
		if b.Yes >= 0 && a.Branches[b.Yes].Test <= b.Test || b.No >= 0 && a.Branches[b.No].Test <= b.Test {
			return api.ErrOrder
		}
	}
	for _, l := range a.Leaves {
		if !l.Accept && len(l.Actions) > 0 {
			return api.ErrInvalid
		}
		for _, x := range l.Actions {
			if !validAction(x) {
				return api.ErrInvalid
			}
		}
	}
	return api.OK
}

// applies is the definition of a valid test that holds.
func applies(t api.Test, r api.Subject) bool {
	switch t.Kind {
	case api.MatchPrefixList:
		return plist.Permits(t.Prefixes, r.Prefix)
	case api.MatchPathList:
		return dfa.Match(t.Path, r.Path)
	case api.MatchCommunityList:
		return community.Permits(t.Communities, r.Communities)
	case api.MatchProtocol:
		return t.N == r.Protocol
	case api.MatchTag:
		return t.N == r.Tag
	case api.MatchMetric:
		return r.Metric <= t.N
	case api.MatchNextHop:
		size := uint64(1) << (32 - t.Prefix.Len)
		return uint64(r.NextHop)/size == uint64(t.Prefix.Addr)/size
	}
	return len(r.Path) <= t.N
}

// reached is the definition of the outcome of a well-formed automaton, with the tests on the way.
func reached(a api.Automaton, results func(test int) bool) (api.Leaf, []int) {
	var tests []int
	n := a.Root
	for n >= 0 {
		b := a.Branches[n]
		tests = append(tests, b.Test)
		n = map[bool]int{true: b.Yes, false: b.No}[results(b.Test)]
	}
	return a.Leaves[-n-1], tests
}

// outcomes is a function from the results of all tests to leaves.
type outcomes func(results []bool) api.Leaf

func leaves(a api.Automaton) outcomes {
	return func(results []bool) api.Leaf {
		l, _ := reached(a, func(test int) bool { return results[test] })
		return l
	}
}

// reduced is the reduced automaton with such outcomes, found from the table of the outcomes for all results.
func reduced(tests []api.Test, of outcomes) api.Automaton {
	a := api.Automaton{Tests: tests}
	numbers := map[string]int{}
	// table returns the outcomes for all results that begin with the given ones.
	tables := map[string]string{}
	var table func(results []bool) string
	table = func(results []bool) string {
		key := fmt.Sprint(results)
		if _, known := tables[key]; !known {
			if len(results) == len(tests) {
				l := of(results)
				tables[key] = fmt.Sprintf("%v%v ", l.Accept, l.Actions)
			} else {
				tables[key] = table(append(slices.Clone(results), true)) + table(append(slices.Clone(results), false))
			}
		}
		return tables[key]
	}
	var visit func(results []bool) int
	visit = func(results []bool) int {
		if len(results) == len(tests) {
			n, known := numbers[table(results)]
			if !known {
				l := of(results)
				n = -1 - len(a.Leaves)
				a.Leaves = append(a.Leaves, l)
				numbers[table(results)] = n
			}
			return n
		}
		yes, no := append(slices.Clone(results), true), append(slices.Clone(results), false)
		if table(yes) == table(no) {
			return visit(yes)
		}
		key := fmt.Sprint(len(results), " ", table(results))
		n, known := numbers[key]
		if !known {
			n = len(a.Branches)
			numbers[key] = n
			a.Branches = append(a.Branches, api.Branch{Test: len(results)})
			y := visit(yes)
			a.Branches[n].Yes, a.Branches[n].No = y, visit(no)
		}
		return n
	}
	a.Root = visit(nil)
	return a
}

// pathTest is the definition of the automaton of a path list, and an error of one of its steps.
func pathTest(rules []api.PathRule) (api.DFA, api.Errno) {
	d := api.DFA{Starts: []int{0}, Next: [][]int{{0}}, Accept: []bool{false}}
	for _, r := range slices.Backward(rules) {
		pattern, _ := regex.Parse(r.Pattern)
		m, e := dfa.Build(pattern)
		if e != api.OK {
			return api.DFA{}, e
		}
		if r.Permit {
			d, e = dfa.Both(dfa.Not(m), dfa.Not(d))
			d = dfa.Not(d)
		} else {
			d, e = dfa.Both(dfa.Not(m), d)
		}
		if e != api.OK {
			return api.DFA{}, e
		}
	}
	return d, api.OK
}

// testOf is the definition of the test of a match.
func testOf(s api.PolicySet, m api.Match) (api.Test, api.Errno) {
	t, e := api.Test{Kind: m.Kind, N: m.N, Prefix: m.Prefix}, api.OK
	for _, l := range s.Prefixes {
		if m.Kind == api.MatchPrefixList && l.Name == m.Name {
			t.Prefixes = l.Rules
		}
	}
	for _, l := range s.Paths {
		if m.Kind == api.MatchPathList && l.Name == m.Name {
			t.Path, e = pathTest(l.Rules)
		}
	}
	for _, l := range s.Communities {
		if m.Kind == api.MatchCommunityList && l.Name == m.Name {
			t.Communities = l.Rules
		}
	}
	return t, e
}

// testsOf is the definition of the tests of a policy, with the index of the test of each match of its terms.
func testsOf(s api.PolicySet, p api.Policy) ([]api.Test, [][]int) {
	var tests []api.Test
	var indexes [][]int
	for _, t := range p.Terms {
		var row []int
		for _, m := range t.Matches {
			x, _ := testOf(s, m)
			i := slices.IndexFunc(tests, func(y api.Test) bool { return equalTest(x, y) })
			if i < 0 {
				i = len(tests)
				tests = append(tests, x)
			}
			row = append(row, i)
		}
		indexes = append(indexes, row)
	}
	return tests, indexes
}

// decision is the definition of the decision of a policy for given results of the tests of its matches.
func decision(p api.Policy, indexes [][]int, results []bool) api.Leaf {
	var kept []api.Action
	for i, t := range p.Terms {
		holds := true
		for j, m := range t.Matches {
			holds = holds && results[indexes[i][j]] != m.Not
		}
		if !holds {
			continue
		}
		kept = slices.Concat(kept, t.Actions)
		if t.Verdict == api.Reject {
			return api.Leaf{}
		}
		if t.Verdict == api.Accept {
			return api.Leaf{Accept: true, Actions: kept}
		}
	}
	if p.Default == api.Reject {
		return api.Leaf{}
	}
	return api.Leaf{Accept: true, Actions: kept}
}

// compiled is the definition of the compiled form of a policy with few tests.
func compiled(s api.PolicySet, p api.Policy) api.Automaton {
	tests, indexes := testsOf(s, p)
	return reduced(tests, func(results []bool) api.Leaf { return decision(p, indexes, results) })
}

// evaluated is the promise of Eval.
func evaluated(a api.Automaton, r api.Subject) (api.Verdict, int, api.Errno) {
	if e := checked(a); e != api.OK {
		return api.Verdict{}, 0, e
	}
	if e := apply.Check(r); e != api.OK {
		return api.Verdict{}, 0, e
	}
	l, tests := reached(a, func(test int) bool { return applies(a.Tests[test], r) })
	if !l.Accept {
		return api.Verdict{}, len(tests), api.OK
	}
	return api.Verdict{Accept: true, Route: apply.Act(l.Actions, r)}, len(tests), api.OK
}

// mapped returns the results of a function for the elements of a list, and nil for an empty list.
func mapped[T, U any](list []T, f func(T) U) []U {
	var l []U
	for _, x := range list {
		l = append(l, f(x))
	}
	return l
}

func itself[T any](x T) T { return x }

// copiedTest and copied return copies without shared memory, whose empty lists are nil.
func copiedTest(t api.Test) api.Test {
	t.Prefixes, t.Communities = mapped(t.Prefixes, itself), mapped(t.Communities, itself)
	t.Path.Starts, t.Path.Accept = mapped(t.Path.Starts, itself), mapped(t.Path.Accept, itself)
	t.Path.Next = mapped(t.Path.Next, func(row []int) []int { return mapped(row, itself) })
	return t
}

func copied(a api.Automaton) api.Automaton {
	a.Tests, a.Branches = mapped(a.Tests, copiedTest), mapped(a.Branches, itself)
	a.Leaves = mapped(a.Leaves, func(l api.Leaf) api.Leaf { return api.Leaf{Accept: l.Accept, Actions: mapped(l.Actions, itself)} })
	return a
}

func equalTest(a, b api.Test) bool { return reflect.DeepEqual(copiedTest(a), copiedTest(b)) }

// equal is the promise of Same.
func equal(a, b api.Automaton) bool { return reflect.DeepEqual(copied(a), copied(b)) }

func equalLeaf(a, b api.Leaf) bool { return a.Accept == b.Accept && slices.Equal(a.Actions, b.Actions) }

func equalVerdict(a, b api.Verdict) bool {
	return a.Accept == b.Accept && apply.Same(a.Route, b.Route)
}
