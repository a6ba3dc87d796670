package regex_test

import (
	"math/rand/v2"
	"slices"
	"testing"

	"routing/api"
	"routing/regex"
)

// P15.4
func TestMatchExamples(t *testing.T) {
	for _, x := range []struct {
		s    string
		path []int
		want bool
	}{
		{"65001 .*", []int{65001}, true}, {"65001 .*", []int{65001, 65002}, true}, {"65001 .*", []int{65002, 65001}, false}, {"65001 .*", nil, false},
		{"(65001|[65010-65019])+", []int{65012, 65001}, true}, {"(65001|[65010-65019])+", []int{65012, 65020}, false}, {"(65001|[65010-65019])+", nil, false},
		{"()", nil, true}, {"()", []int{0}, false}, {"!", nil, false}, {"!", []int{0}, false}, {"!*", nil, true}, {"!*", []int{1}, false}, {"!+", nil, false}, {"!?", nil, true},
		{"()*", nil, true}, {"()+", nil, true}, {"()+", []int{1}, false}, {"()|()", nil, true}, {"!|!", nil, false}, {"!|1", []int{1}, true}, {"1|!", []int{1}, true},
		{"() 1 ()", []int{1}, true}, {"1 !", []int{1}, false}, {"! 1", []int{1}, false},
		{".", []int{0}, true}, {".", []int{4294967295}, true}, {".", []int{4294967296}, false}, {".", []int{-1}, false}, {".", nil, false}, {".", []int{1, 2}, false},
		{"[5-7]", []int{4}, false}, {"[5-7]", []int{5}, true}, {"[5-7]", []int{6}, true}, {"[5-7]", []int{7}, true}, {"[5-7]", []int{8}, false},
		{".*", []int{1, -1}, false}, {".*", []int{1 << 32, 1}, false}, {".*", []int{-1 << 63}, false}, {"0*", []int{0, 0}, true}, {"0", []int{-0}, true}, {"0", []int{1 << 32}, false},
		{"1 2|3", []int{1, 2}, true}, {"1 2|3", []int{3}, true}, {"1 2|3", []int{1, 3}, false}, {"1 (2|3)", []int{1, 3}, true},
		{"(1 2)*", []int{1, 2, 1, 2}, true}, {"(1 2)*", []int{1, 2, 1}, false}, {"(1*)*", []int{1, 1}, true}, {"(1+)?", nil, true}, {"(1?)+", []int{1, 1, 1}, true}, {"1?", []int{1, 1}, false},
		{"(1|1 2) (2|3)?", []int{1, 2, 3}, true}, {"1* 1 1", []int{1}, false}, {"1* 1 1", []int{1, 1, 1}, true},
	} {
		r, e := regex.Parse(x.s)
		if e != api.OK || regex.Match(r, x.path) != x.want || matches(r, x.path) != x.want {
			t.Errorf("Match(%q, %v) = %v", x.s, x.path, regex.Match(r, x.path))
		}
		if regex.Nullable(r) != matches(r, nil) {
			t.Errorf("Nullable(%q) = %v", x.s, regex.Nullable(r))
		}
	}
}

// P15.4: all small expressions of each kind, and damaged ones, on all short paths.
func TestMatchRandom(t *testing.T) {
	r := rand.New(rand.NewPCG(15, 4))
	short := append(paths(3), []int{-1}, []int{1 << 32}, []int{1, -1}, []int{1 << 32, 0}, []int{2, 1<<63 - 1, 2})
	matched, formed := 0, 0
	for range 2000 {
		x := anyRegex(r, 1+r.IntN(14), 1+r.IntN(6))
		if r.IntN(4) == 0 {
			x = damaged(r, x)
		}
		if wellFormed(x) {
			formed++
		}
		if regex.Nullable(x) != matches(x, nil) {
			t.Fatalf("Nullable(%v) = %v", x, regex.Nullable(x))
		}
		for _, path := range short {
			got := regex.Match(x, path)
			if got != matches(x, path) {
				t.Fatalf("Match(%v, %v) = %v", x, path, got)
			}
			if got {
				matched++
			}
		}
	}
	if matched < 15000 || formed < 1200 || formed > 1950 {
		t.Error(matched, "matches,", formed, "expressions")
	}
}

// P15.4: longer paths.
func TestMatchLong(t *testing.T) {
	r := rand.New(rand.NewPCG(15, 44))
	for range 5000 {
		x := validRegex(r)
		path := anyPath(r, r.IntN(30))
		if got := regex.Match(x, path); got != matches(x, path) {
			t.Fatalf("Match(%q, %v) = %v", printed(x), path, got)
		}
	}
	x, e := regex.Parse("((1* 1*)* (1?)+ (1*|1+)* .*)* 2")
	path := slices.Repeat([]int{1}, 100000)
	if e != api.OK || regex.Match(x, path) || !regex.Match(x, append(path, 2)) {
		t.Error("a path that can be divided in many ways", e)
	}
}

// P15.4: any depth and size.
func TestMatchLarge(t *testing.T) {
	const levels = 1 << 16
	for _, kinds := range [][]int{{api.ReStar}, {api.RePlus}, {api.ReOpt}, {api.ReStar, api.RePlus, api.ReOpt}, {api.ReOpt, api.RePlus}} {
		r := chain(levels, kinds...)
		one := slices.Equal(kinds, []int{api.ReOpt})
		if !regex.Match(r, []int{1}) || regex.Match(r, []int{1, 2}) == one || regex.Match(r, []int{-1}) {
			t.Error("Match of a deep expression of kinds", kinds)
		}
		if empty := !slices.Equal(kinds, []int{api.RePlus}); regex.Nullable(r) != empty || regex.Match(r, nil) != empty {
			t.Error("Nullable of a deep expression of kinds", kinds)
		}
		bad := chain(levels, kinds...)
		at := &bad
		for len(at.Kids) > 0 {
			at = &at.Kids[0]
		}
		at.Hi = 1
		if regex.Match(bad, []int{1}) || regex.Match(bad, nil) || regex.Nullable(bad) {
			t.Error("a deep expression that is not well formed")
		}
	}
	left, right, path := number(1), number(1), []int{1}
	for range levels - 1 {
		left, right = node(api.ReSeq, left, number(2)), node(api.ReSeq, number(2), right)
		path = append(path, 2)
	}
	if !regex.Match(left, path) || regex.Match(left, path[1:]) || regex.Match(right, path) || regex.Nullable(left) {
		t.Error("deep sequences")
	}
	slices.Reverse(path)
	if !regex.Match(right, path) || regex.Match(right, path[1:]) || regex.Match(left, path) || regex.Nullable(right) {
		t.Error("deep sequences, to the other side")
	}
	options := wide(api.ReSeq, 100000, node(api.ReOpt, number(1)))
	if !regex.Nullable(options) || !regex.Match(options, []int{1, 1, 1}) || regex.Match(options, []int{1, 2}) {
		t.Error("a long sequence")
	}
	var kids []api.Regex
	for i := range 100000 {
		kids = append(kids, number(2*i))
	}
	if r := node(api.ReAlt, kids...); !regex.Match(r, []int{199998}) || !regex.Match(r, []int{0}) || regex.Match(r, []int{5}) || regex.Nullable(r) {
		t.Error("many alternatives")
	}
}

// P15.8
func TestAlgebra(t *testing.T) {
	r := rand.New(rand.NewPCG(15, 8))
	for range 1500 {
		x, y := anyRegex(r, 1+r.IntN(8), 4), anyRegex(r, 1+r.IntN(8), 4)
		star, plus := node(api.ReStar, x), node(api.RePlus, x)
		if !regex.Match(star, nil) {
			t.Fatalf("%v does not match the empty path", star)
		}
		for range 20 {
			p, q := anyPath(r, r.IntN(4)), anyPath(r, r.IntN(4))
			both := slices.Concat(p, q)
			if regex.Match(node(api.ReAlt, x, y), p) != (regex.Match(x, p) || regex.Match(y, p)) {
				t.Fatalf("the alternatives %v and %v on %v", x, y, p)
			}
			if regex.Match(x, p) && regex.Match(star, q) && !regex.Match(star, both) {
				t.Fatalf("%v does not match %v and %v", star, p, q)
			}
			if regex.Match(plus, both) != regex.Match(node(api.ReSeq, x, star), both) {
				t.Fatalf("%v on %v", plus, both)
			}
		}
	}
}
