package regex_test

import (
	"math"
	"math/rand/v2"
	"slices"
	"testing"

	"routing/api"
	"routing/regex"
)

// checked is the promise of Check.
func checked(r api.Regex) api.Errno {
	type entry struct {
		r     api.Regex
		level int
	}
	var preorder []entry
	var list func(r api.Regex, level int)
	list = func(r api.Regex, level int) {
		preorder = append(preorder, entry{r, level})
		for _, kid := range r.Kids {
			list(kid, level+1)
		}
	}
	list(r, 1)
	for i, x := range preorder {
		kids := len(x.r.Kids)
		fits := kids == 0
		switch x.r.Kind {
		case api.ReSeq:
			fits = kids > 1
		case api.ReAlt:
			fits = kids != 1
		case api.ReStar, api.RePlus, api.ReOpt:
			fits = kids == 1
		}
		switch {
		case x.level > 16:
			return api.ErrDeep
		case i >= 64:
			return api.ErrTooLong
		case x.r.Kind < 0 || x.r.Kind > 7:
			return api.ErrKind
		case x.r.Kind == api.ReRange && !(0 <= x.r.Lo && x.r.Lo <= x.r.Hi && x.r.Hi <= 4294967295):
			return api.ErrRange
		case x.r.Kind != api.ReRange && (x.r.Lo != 0 || x.r.Hi != 0) || !fits:
			return api.ErrInvalid
		}
	}
	return api.OK
}

// chain returns an expression with so many levels, of kinds with one kid but for the last level.
func chain(levels int, kinds ...int) api.Regex {
	r := node(api.ReAny)
	for i := range levels - 1 {
		r = node(kinds[i%len(kinds)], r)
	}
	return r
}

// wide returns an expression with so many kids.
func wide(kind, kids int, kid api.Regex) api.Regex {
	return node(kind, slices.Repeat([]api.Regex{kid}, kids)...)
}

// P15.1: single nodes, with all fields.
func TestCheckNode(t *testing.T) {
	values := []int{0, 1, 2, 4294967294, 4294967295, 4294967296, -1, -2, math.MaxInt, math.MinInt}
	for kind := -3; kind < 12; kind++ {
		for _, lo := range values {
			for _, hi := range values {
				for kids := range 5 {
					r := wide(kind, kids, node(api.ReAny))
					r.Lo, r.Hi = lo, hi
					if e := regex.Check(r); e != checked(r) {
						t.Errorf("Check(%v) = %v", r, e)
					}
				}
			}
		}
	}
	for _, kind := range []int{math.MinInt, math.MaxInt, 1 << 32, 1<<32 + 1, -1 << 32} {
		if e := regex.Check(node(kind)); e != api.ErrKind {
			t.Errorf("Check of kind %d: %v", kind, e)
		}
	}
}

// P15.1: the limits of depth and size, and the order of the errors.
func TestCheckOrder(t *testing.T) {
	deep, bad := chain(17, api.ReStar), node(9)
	reversed := api.Regex{Kind: api.ReRange, Lo: 2, Hi: 1}
	within := chain(15, api.RePlus)
	for _, x := range []struct {
		name string
		r    api.Regex
		e    api.Errno
	}{
		{"16 levels", chain(16, api.ReStar, api.ReOpt), api.OK},
		{"17 levels", deep, api.ErrDeep},
		{"16 levels below an alternative", node(api.ReAlt, node(api.ReAny), chain(16, api.ReOpt)), api.ErrDeep},
		{"15 levels below an alternative", node(api.ReAlt, node(api.ReAny), within), api.OK},
		{"64 nodes", wide(api.ReSeq, 63, number(1)), api.OK},
		{"65 nodes", wide(api.ReSeq, 64, number(1)), api.ErrTooLong},
		{"65 nodes with 4 levels", node(api.ReSeq, wide(api.ReAlt, 31, number(1)), wide(api.ReAlt, 31, node(api.ReAny))), api.ErrTooLong},
		{"64 nodes with 4 levels", node(api.ReSeq, wide(api.ReAlt, 31, number(1)), wide(api.ReAlt, 30, node(api.ReAny))), api.OK},
		{"the last of 64 nodes is bad", node(api.ReSeq, append(wide(api.ReSeq, 62, number(1)).Kids, bad)...), api.ErrKind},
		{"the 65th node is bad", node(api.ReSeq, append(wide(api.ReSeq, 63, number(1)).Kids, bad)...), api.ErrTooLong},
		{"the 65th node is deep", node(api.ReSeq, append(wide(api.ReSeq, 48, number(1)).Kids, deep)...), api.ErrDeep},
		{"a bad node before too many", node(api.ReSeq, append([]api.Regex{bad}, wide(api.ReSeq, 80, number(1)).Kids...)...), api.ErrKind},
		{"the root is bad, and its kids are too many", wide(api.ReStar, 80, number(1)), api.ErrInvalid},
		{"the root is bad, and its kid", api.Regex{Kind: api.ReStar, Lo: 1, Kids: []api.Regex{bad}}, api.ErrInvalid},
		{"a kid of a bad root", node(9, reversed), api.ErrKind},
		{"a range with kids", api.Regex{Kind: api.ReRange, Kids: []api.Regex{bad}}, api.ErrInvalid},
		{"a bad range with kids", api.Regex{Kind: api.ReRange, Lo: 3, Kids: []api.Regex{bad}}, api.ErrRange},
		{"two bad kids", node(api.ReAlt, reversed, bad), api.ErrRange},
		{"two bad kids in the other order", node(api.ReAlt, bad, reversed), api.ErrKind},
		{"a bad kid of a kid before a bad kid", node(api.ReAlt, node(api.ReStar, reversed), bad), api.ErrRange},
		{"a bad kid before a deep one", node(api.ReAlt, bad, deep), api.ErrKind},
		{"a deep kid before a bad one", node(api.ReAlt, deep, bad), api.ErrDeep},
		{"a bad node at level 17", node(api.ReStar, chain(15, api.ReStar), bad), api.ErrInvalid},
	} {
		if e := regex.Check(x.r); e != x.e || checked(x.r) != x.e {
			t.Errorf("%s: %v instead of %v", x.name, e, x.e)
		}
	}
	deepest := chain(17, api.ReStar)
	at := &deepest
	for len(at.Kids) > 0 {
		at = &at.Kids[0]
	}
	at.Kind = 9
	if e := regex.Check(deepest); e != api.ErrDeep {
		t.Error("a bad node at level 17:", e)
	}
}

// damaged returns an expression like r in which some nodes may be wrong.
func damaged(r *rand.Rand, x api.Regex) api.Regex {
	x.Kids = slices.Clone(x.Kids)
	for i := range x.Kids {
		x.Kids[i] = damaged(r, x.Kids[i])
	}
	switch r.IntN(40) {
	case 0:
		x.Kind = r.IntN(12) - 2
	case 1:
		x.Lo = r.IntN(7) - 3
	case 2:
		x.Hi = r.IntN(7) - 3
	case 3:
		x.Kids = append(x.Kids, node(api.ReAny))
	case 4:
		x.Kids = x.Kids[:len(x.Kids)/2]
	}
	return x
}

// P15.1
func TestCheckRandom(t *testing.T) {
	r := rand.New(rand.NewPCG(15, 1))
	count := map[api.Errno]int{}
	for range 50000 {
		x := anyRegex(r, 1+r.IntN(90), 1+r.IntN(25))
		if r.IntN(2) == 0 {
			x = damaged(r, x)
		}
		e := regex.Check(x)
		if e != checked(x) {
			t.Fatalf("Check(%v) = %v", x, e)
		}
		count[e]++
	}
	for _, e := range []api.Errno{api.OK, api.ErrDeep, api.ErrTooLong, api.ErrKind, api.ErrRange, api.ErrInvalid} {
		if count[e] < 100 {
			t.Error("only", count[e], "cases of", e)
		}
	}
}

// P15.6
func TestSame(t *testing.T) {
	r := rand.New(rand.NewPCG(15, 6))
	differ := 0
	for range 30000 {
		a := damaged(r, anyRegex(r, 1+r.IntN(8), 5))
		b := damaged(r, copied(a))
		if regex.Same(a, b) != equal(a, b) || regex.Same(b, a) != equal(a, b) || !regex.Same(a, copied(a)) {
			t.Fatalf("Same(%v, %v) = %v", a, b, regex.Same(a, b))
		}
		if !equal(a, b) {
			differ++
		}
	}
	if differ < 1000 {
		t.Error("only", differ, "pairs differ")
	}
	if !regex.Same(api.Regex{Kind: -5, Lo: 7, Hi: 3}, api.Regex{Kind: -5, Lo: 7, Hi: 3, Kids: []api.Regex{}}) {
		t.Error("an empty list of Kids and none differ")
	}
	if regex.Same(node(api.ReSeq, number(1), number(2)), node(api.ReSeq, number(2), number(1))) {
		t.Error("the order of the Kids does not count")
	}
	if regex.Same(node(api.ReAlt, number(1)), node(api.ReAlt, number(1), number(1))) || regex.Same(number(5), span(5, 6)) {
		t.Error("different expressions are the same")
	}
	deep := chain(1<<16, api.ReStar, api.ReOpt)
	if !regex.Same(deep, chain(1<<16, api.ReStar, api.ReOpt)) || regex.Same(deep, chain(1<<16-1, api.ReStar, api.ReOpt)) {
		t.Error("deep expressions")
	}
}

// R1: an expression that contains itself is not well formed, and no function follows it without end.
func TestCyclic(t *testing.T) {
	for _, kind := range []int{api.ReSeq, api.ReAlt, api.ReStar, api.RePlus, api.ReOpt} {
		kids := []api.Regex{{Kind: kind}, {Kind: kind}}
		if kind != api.ReSeq && kind != api.ReAlt {
			kids = kids[:1]
		}
		for i := range kids {
			kids[i].Kids = kids
		}
		r := kids[0]
		if regex.Check(r) != api.ErrDeep || regex.Nullable(r) || regex.Match(r, nil) || !equal(regex.Derive(r, 1), node(api.ReAlt)) {
			t.Error("an endless expression of kind", kind)
		}
		if _, e := regex.Print(r); e != api.ErrDeep || regex.Same(r, r) {
			t.Error("Print or Same of an endless expression of kind", kind)
		}
	}
}
