package regex_test

import (
	"math/rand/v2"
	"slices"
	"testing"

	"routing/api"
	"routing/regex"
)

// isNone reports whether an expression is the empty alternative.
func isNone(r api.Regex) bool { return equal(r, node(api.ReAlt)) }

// P15.5
func TestDerive(t *testing.T) {
	r := rand.New(rand.NewPCG(15, 5))
	short := append(paths(2), []int{1, 1, 1}, []int{-1}, []int{1, 1 << 32})
	matched := 0
	for range 4000 {
		x := anyRegex(r, 1+r.IntN(14), 1+r.IntN(6))
		for _, as := range numbers {
			d := regex.Derive(x, as)
			if !wellFormed(d) {
				t.Fatalf("Derive(%v, %d) = %v", x, as, d)
			}
			for _, path := range short {
				want := matches(x, slices.Concat([]int{as}, path))
				if matches(d, path) != want {
					t.Fatalf("Derive(%v, %d) = %v on %v", x, as, d, path)
				}
				if want {
					matched++
				}
			}
		}
	}
	if matched < 30000 {
		t.Error("only", matched, "matches")
	}
}

// P15.5: expressions that are not well formed, and integers that are no AS numbers.
func TestDeriveOfNothing(t *testing.T) {
	r := rand.New(rand.NewPCG(15, 55))
	any := node(api.ReStar, node(api.ReAny))
	for _, as := range []int{-1, 1 << 32, 1<<32 + 1, -1 << 63, 1<<63 - 1} {
		if !isNone(regex.Derive(any, as)) || !isNone(regex.Derive(span(0, 4294967295), as)) || !isNone(regex.Derive(node(api.ReEmpty), as)) {
			t.Error("Derive by", as)
		}
	}
	for _, as := range []int{0, 4294967295} {
		if d := regex.Derive(any, as); !matches(d, nil) || !matches(d, []int{0, 4294967295}) {
			t.Error("Derive by", as)
		}
	}
	bad := 0
	for range 3000 {
		x := damaged(r, anyRegex(r, 1+r.IntN(14), 6))
		if d := regex.Derive(x, 1); !wellFormed(x) && !isNone(d) {
			t.Fatalf("Derive(%v, 1) = %v", x, d)
		}
		if !wellFormed(x) {
			bad++
		}
	}
	if bad < 300 {
		t.Error("only", bad, "expressions are not well formed")
	}
	if !regex.Match(node(api.ReSeq, node(api.ReAny), any), []int{1}) || !isNone(regex.Derive(api.Regex{Kind: api.ReStar}, 1)) {
		t.Error("a star without a kid")
	}
	// The rest of the path is matched, but another kid is not well formed.
	if x := node(api.ReAlt, any, api.Regex{Kind: api.ReRange, Lo: 2, Hi: 1}); !isNone(regex.Derive(x, 1)) || regex.Nullable(x) {
		t.Error("one of two alternatives is not well formed")
	}
}

// P15.9
func TestDerivatives(t *testing.T) {
	r := rand.New(rand.NewPCG(15, 9))
	for range 2000 {
		x := anyRegex(r, 1+r.IntN(20), 1+r.IntN(8))
		path := anyPath(r, r.IntN(12))
		d := x
		for _, as := range path {
			d = regex.Derive(d, as)
		}
		want := matches(x, path)
		if regex.Nullable(d) != want || regex.Match(x, path) != want {
			t.Fatalf("%v derived by %v is %v", x, path, d)
		}
	}
}

// P15.9: long paths. The derivatives must not grow with each number.
func TestLongDerivatives(t *testing.T) {
	for _, s := range []string{
		"((1* 1*)* (1?)+ (1*|1+)* .*)* 2", "(.* 1 .* 1 .* 1 .*)+ 2", "(((1+ 1?)+ 1?)+ 1?)+ .", ".* 1 . . . . . . . . .", "((1|2 1*)* (1 .|. 1)+ (2|.? 1)*)*", "1? 1? 1? 1? 1? 1? 1? 1? 1? 1? 1? 1? 1? 1? 1? 1? .*",
		"((1 2*)* (1* 2)* (1 2?)+)+", "(((((((1+ 2?)+ 2?)+ 2?)+ 2?)+ 2?)+ 2?)+ 2?)+", "(((((((. 1)* 1)* 1)* 1)* 1)* 1)* 1)*",
	} {
		x, e := regex.Parse(s)
		if e != api.OK {
			t.Fatal(s, e)
		}
		var path []int
		d := x
		for i := range 300 {
			as := 1 + i*i*i%7%2
			path = append(path, as)
			d = regex.Derive(d, as)
			if regex.Nullable(d) != regex.Match(x, path) {
				t.Fatalf("%q on %v", s, path)
			}
			if n := nodes(d); n > 500 {
				t.Fatalf("the derivative of %q by %v has %d nodes", s, path, n)
			}
		}
	}
	r := rand.New(rand.NewPCG(15, 99))
	for range 200 {
		x := validRegex(r)
		path := anyPath(r, 100)
		d := x
		for i, as := range path {
			d = regex.Derive(d, as)
			if regex.Nullable(d) != regex.Match(x, path[:i+1]) {
				t.Fatalf("%q on %v", printed(x), path[:i+1])
			}
		}
	}
}

// P15.5: any depth and size.
func TestDeriveLarge(t *testing.T) {
	for _, kinds := range [][]int{{api.ReStar}, {api.RePlus}, {api.ReOpt}, {api.RePlus, api.ReStar, api.ReOpt}} {
		d := regex.Derive(chain(1<<16, kinds...), 7)
		one := slices.Equal(kinds, []int{api.ReOpt})
		if !regex.Nullable(d) || regex.Match(d, []int{7}) == one || regex.Nullable(regex.Derive(d, 7)) == one {
			t.Error("a deep expression of kinds", kinds)
		}
	}
	options := wide(api.ReSeq, 30000, node(api.ReOpt, number(1)))
	d := regex.Derive(regex.Derive(options, 1), 1)
	if !regex.Nullable(d) || !regex.Match(d, []int{1, 1, 1}) || regex.Match(d, []int{2}) {
		t.Error("a long sequence")
	}
	left, right := number(1), number(2)
	for range 1<<16 - 1 {
		left, right = node(api.ReSeq, left, number(2)), node(api.ReSeq, number(1), right)
	}
	if d := regex.Derive(left, 1); !regex.Match(d, slices.Repeat([]int{2}, 1<<16-1)) || regex.Match(d, slices.Repeat([]int{2}, 1<<16)) || !isNone(regex.Derive(left, 2)) {
		t.Error("deep sequences")
	}
	if d := regex.Derive(right, 1); !regex.Match(d, append(slices.Repeat([]int{1}, 1<<16-2), 2)) || regex.Nullable(d) {
		t.Error("deep sequences, to the other side")
	}
}

// lists returns all lists of an expression.
func lists(r api.Regex) [][]api.Regex {
	l := [][]api.Regex{r.Kids}
	for _, kid := range r.Kids {
		l = append(l, lists(kid)...)
	}
	return l
}

// P15.1 to P15.6: arguments are left as they are, with what lies behind the ends of their lists, and the lists of results
// are memory of their own.
func TestMemory(t *testing.T) {
	r := rand.New(rand.NewPCG(15, 15))
	for range 3000 {
		x := roomy(validRegex(r))
		path := anyPath(r, 1+r.IntN(5))
		givenPath := slices.Clone(path)
		given := whole(x)
		derived := regex.Derive(x, path[0])
		twice := regex.Derive(x, path[0])
		regex.Match(x, path)
		regex.Nullable(x)
		s, _ := regex.Print(x)
		parsed, e := regex.Parse(s)
		if e != api.OK || regex.Check(x) != api.OK || !regex.Same(x, parsed) {
			t.Fatal("Parse, Check, Same of", s)
		}
		for i, result := range []api.Regex{derived, parsed} {
			// The lists are filled to their capacity from the ends of the expression on, each with its own value.
			all := lists(result)
			slices.Reverse(all)
			for j, l := range all {
				l = l[:cap(l)]
				for k := range l {
					l[k].Kind = 100 + j
				}
			}
			for j, l := range all {
				for _, kid := range l[:cap(l)] {
					if kid.Kind != 100+j {
						t.Fatal("two lists of result", i, "share memory")
					}
				}
			}
		}
		if !equal(whole(x), given) || !slices.Equal(path, givenPath) {
			t.Fatal("an argument was changed")
		}
		if again := regex.Derive(x, path[0]); !equal(again, twice) {
			t.Fatal("Derive returns different results")
		}
	}
}
