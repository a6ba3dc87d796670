package dfa_test

import (
	"math/rand/v2"
	"strings"
	"testing"

	"routing/api"
	"routing/dfa"
	"routing/regex"
)

// P16.2
func TestBuildExamples(t *testing.T) {
	no, yes := false, true
	for s, want := range map[string]api.DFA{
		"65001 .*":             automaton([]int{0, 65001, 65002}, []bool{no, no, yes}, []int{1, 2, 1}, []int{1, 1, 1}, []int{2, 2, 2}),
		"!":                    automaton([]int{0}, []bool{no}, []int{0}),
		"1 !":                  automaton([]int{0}, []bool{no}, []int{0}),
		".*":                   automaton([]int{0}, []bool{yes}, []int{0}),
		"[0-4294967295]*":      automaton([]int{0}, []bool{yes}, []int{0}),
		"[0-9]|[10-65535]":     automaton([]int{0, 65536}, []bool{no, yes, no}, []int{1, 2}, []int{2, 2}, []int{2, 2}),
		"()":                   automaton([]int{0}, []bool{yes, no}, []int{1}, []int{1}),
		"!*":                   automaton([]int{0}, []bool{yes, no}, []int{1}, []int{1}),
		".":                    automaton([]int{0}, []bool{no, yes, no}, []int{1}, []int{2}, []int{2}),
		"0":                    automaton([]int{0, 1}, []bool{no, yes, no}, []int{1, 2}, []int{2, 2}, []int{2, 2}),
		"4294967295":           automaton([]int{0, 4294967295}, []bool{no, no, yes}, []int{1, 2}, []int{1, 1}, []int{1, 1}),
		"[5-4294967295]":       automaton([]int{0, 5}, []bool{no, no, yes}, []int{1, 2}, []int{1, 1}, []int{1, 1}),
		"[0-4]|[5-4294967295]": automaton([]int{0}, []bool{no, yes, no}, []int{1}, []int{2}, []int{2}),
		"[0-9]+|[10-65535]+":   automaton([]int{0, 10, 65536}, []bool{no, yes, yes, no}, []int{1, 2, 3}, []int{1, 3, 3}, []int{3, 2, 3}, []int{3, 3, 3}),
		"(1|2)*":               automaton([]int{0, 1, 3}, []bool{yes, no}, []int{1, 0, 1}, []int{1, 1, 1}),
		".* 1":                 automaton([]int{0, 1, 2}, []bool{no, yes}, []int{0, 1, 0}, []int{0, 1, 0}),
	} {
		if d := built(t, s); !equal(d, want) {
			t.Errorf("Build of %q is %v", s, d)
		}
	}
}

// P16.2: the automaton is the minimal one of the automaton of all position sets.
func TestBuildRandom(t *testing.T) {
	r := rand.New(rand.NewPCG(16, 2))
	states := map[int]int{}
	for range 6000 {
		x := anyRegex(r, 1+r.IntN(16), 1+r.IntN(6))
		sets := positionAutomaton(x, 40)
		if sets == nil {
			continue
		}
		d, e := dfa.Build(x)
		if want := least(*sets); e != api.OK || !equal(d, want) {
			t.Fatalf("Build of %v is %v, %v instead of %v", x, d, e, want)
		}
		states[len(d.Next)]++
	}
	for n := 1; n < 7; n++ {
		if states[n] < 50 {
			t.Error("only", states[n], "automata have", n, "states")
		}
	}
}

// P16.2: an expression with so many nodes that there is hardly a position left over.
func TestBuildManyPositions(t *testing.T) {
	var parts []string
	for range 63 {
		parts = append(parts, "[1-2]")
	}
	d := built(t, strings.Join(parts, " "))
	if len(d.Next) != 65 || dfa.Match(d, make([]int, 63)) {
		t.Error("a sequence of 63 positions has", len(d.Next), "states")
	}
	path := make([]int, 63)
	for i := range path {
		path[i] = 1 + i%2
	}
	if !dfa.Match(d, path) || dfa.Match(d, path[1:]) || dfa.Match(d, append(path, 1)) {
		t.Error("a sequence of 63 positions")
	}
	path[62] = 3
	if dfa.Match(d, path) {
		t.Error("the last of 63 positions")
	}
	if d := built(t, strings.Join(parts, "|")); len(d.Next) != 3 || len(d.Starts) != 3 {
		t.Error("63 alternatives have", len(d.Next), "states")
	}
}

// dots returns so many of the letters that stand for any number.
func dots(n int) string { return strings.Repeat(" .", n) }

// P16.2: the number of position sets is limited, not the number of states.
func TestBuildFull(t *testing.T) {
	// After the letters that begin it there are 3888, 128 and 64 sets, 3 of one letter, and the empty and the initial one.
	sets := func(first int) string {
		return strings.Repeat("7 ", first) + "(8 .* (1" + dots(4) + "|2" + dots(8) + ")|9 .* 1" + dots(6) + "|6 .* 1" + dots(5) + ")"
	}
	for _, x := range []struct {
		s    string
		sets int
	}{{sets(11), 4096}, {sets(12), 4097}, {".* 1" + dots(11), 4097}, {".* 1" + dots(10), 2049}, {".* 1" + dots(20), 5000}, {".* 1" + dots(59), 5000}} {
		r := parsed(t, x.s)
		if counted := positionAutomaton(r, 4999); counted == nil && x.sets < 5000 || counted != nil && len(counted.Next) != x.sets {
			t.Errorf("%q does not have %d position sets", x.s, x.sets)
		}
		d, e := dfa.Build(r)
		if x.sets > 4096 && (e != api.ErrFull || !equal(d, api.DFA{})) || x.sets <= 4096 && (e != api.OK || dfa.Check(d) != api.OK) {
			t.Errorf("Build with %d position sets: %v", x.sets, e)
		}
	}
	if d := built(t, ".* 1"+dots(10)); len(d.Next) != 2048 || !dfa.Match(d, []int{5, 1, 0, 0, 0, 0, 0, 0, 0, 0, 0, 0}) || dfa.Match(d, []int{1, 5, 0, 0, 0, 0, 0, 0, 0, 0, 0, 0}) {
		t.Error("an automaton with many states has", len(d.Next))
	}
	// The sets of useless positions count, too.
	if _, e := dfa.Build(parsed(t, ".* 1"+dots(11)+" !")); e != api.ErrFull {
		t.Error("an expression that matches no path:", e)
	}
}

// P16.2: the errors of regex.Check.
func TestBuildErrors(t *testing.T) {
	any := api.Regex{Kind: api.ReAny}
	deep, wide := any, api.Regex{Kind: api.ReAlt}
	for range 16 {
		deep = api.Regex{Kind: api.ReStar, Kids: []api.Regex{deep}}
	}
	for range 64 {
		wide.Kids = append(wide.Kids, any)
	}
	full := parsed(t, ".* 1"+dots(11))
	for _, x := range []struct {
		r api.Regex
		e api.Errno
	}{
		{deep, api.ErrDeep}, {wide, api.ErrTooLong}, {api.Regex{Kind: 8}, api.ErrKind}, {api.Regex{Kind: api.ReRange, Lo: 2, Hi: 1}, api.ErrRange}, {api.Regex{Kind: api.ReStar}, api.ErrInvalid},
		{api.Regex{Kind: api.ReAlt, Kids: []api.Regex{full, {Kind: -1}}}, api.ErrKind}, {api.Regex{Kind: api.ReAlt, Kids: []api.Regex{full, any}}, api.ErrFull},
	} {
		if d, e := dfa.Build(x.r); e != x.e || !equal(d, api.DFA{}) {
			t.Errorf("Build of %v: %v instead of %v", x.r, e, x.e)
		}
	}
	if d, e := dfa.Build(deep.Kids[0]); e != api.OK || !equal(d, built(t, ".*")) {
		t.Error("16 levels", e)
	}
}

// P16.9
func TestBuildMatches(t *testing.T) {
	r := rand.New(rand.NewPCG(16, 9))
	for range 1500 {
		x := anyRegex(r, 1+r.IntN(25), 1+r.IntN(9))
		d, e := dfa.Build(x)
		if e != api.OK {
			if regex.Check(x) == api.OK {
				t.Fatalf("Build of %v: %v", x, e)
			}
			continue
		}
		for range 40 {
			path := anyPath(r, r.IntN(8))
			if dfa.Match(d, path) != regex.Match(x, path) {
				t.Fatalf("%v on %v", x, path)
			}
		}
		// Numbers beside the ends of ranges.
		for _, start := range d.Starts {
			for as := start - 2; as < start+2; as++ {
				if path := []int{as}; dfa.Match(d, path) != regex.Match(x, path) {
					t.Fatalf("%v on %v", x, path)
				}
			}
		}
	}
}

// P16.9: no automaton with fewer states accepts the same paths.
func TestFewestStates(t *testing.T) {
	r := rand.New(rand.NewPCG(16, 99))
	var small []api.DFA
	for _, starts := range [][]int{{0}, {0, 1}, {0, 1, 2}} {
		for _, states := range []int{1, 2} {
			choices := 1
			for range states * len(starts) {
				choices *= states
			}
			for choice := range choices << states {
				d := api.DFA{Starts: starts}
				rest := choice >> states
				for s := range states {
					var row []int
					for range starts {
						row = append(row, rest%states)
						rest /= states
					}
					d.Next, d.Accept = append(d.Next, row), append(d.Accept, choice>>s&1 == 1)
				}
				small = append(small, d)
			}
		}
	}
	for range 300 {
		d, e := dfa.Build(anyRegex(r, 1+r.IntN(8), 4))
		if e != api.OK {
			t.Fatal(e)
		}
		for _, x := range small {
			if len(x.Next) >= len(d.Next) {
				continue
			}
			if _, differ := witness(d, x); !differ {
				t.Fatalf("%v accepts what %v accepts", x, d)
			}
		}
	}
}
