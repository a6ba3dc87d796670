package aspath_test

import (
	"math"
	"math/rand/v2"
	"slices"
	"testing"

	"routing/api"
	"routing/aspath"
)

// numberOrNone is what First and Origin return.
type numberOrNone struct {
	as int
	ok bool
}

func first(p []api.Segment) numberOrNone {
	as, ok := aspath.First(p)
	return numberOrNone{as, ok}
}

func origin(p []api.Segment) numberOrNone {
	as, ok := aspath.Origin(p)
	return numberOrNone{as, ok}
}

// P17.2, P17.3: the example, and the cases that the document names.
func TestQueries(t *testing.T) {
	none := numberOrNone{}
	unknown := func(as ...int) api.Segment { return api.Segment{Kind: 5, AS: as} }
	for i, c := range []struct {
		p             []api.Segment
		length        int
		first, origin numberOrNone
	}{
		{path(seq(65001, 65002), set(65003, 65004)), 3, numberOrNone{65001, true}, none},
		{path(confSeq(65010, 65011), seq(65001)), 1, numberOrNone{65001, true}, numberOrNone{65001, true}},
		{nil, 0, none, none}, {path(), 0, none, none},
		{path(seq(7)), 1, numberOrNone{7, true}, numberOrNone{7, true}},
		{path(seq(1, 2, 2)), 3, numberOrNone{1, true}, numberOrNone{2, true}},
		{path(set(1, 2, 3)), 1, none, none}, {path(confSeq(1, 2)), 0, none, none}, {path(confSet(1, 2)), 0, none, none},
		{path(set(1, 2), seq(3, 4)), 3, numberOrNone{3, true}, numberOrNone{4, true}},
		{path(set(1, 2), set(3, 4)), 2, none, none},
		{path(seq(1), set(2), seq(3, 4)), 4, numberOrNone{1, true}, numberOrNone{4, true}},
		{path(seq(count(1, 255)...), seq(256, 257)), 257, numberOrNone{1, true}, numberOrNone{257, true}},
		{path(seq(4294967295)), 1, numberOrNone{4294967295, true}, numberOrNone{4294967295, true}},
		// Paths that are not valid.
		{path(seq()), 0, none, none}, {path(set()), 1, none, none}, {path(confSeq()), 0, none, none},
		{path(seq(), seq(1)), 1, none, numberOrNone{1, true}}, {path(seq(1), seq()), 1, numberOrNone{1, true}, none},
		{path(seq(), set(1), seq(2)), 2, none, numberOrNone{2, true}}, {path(confSeq(), seq(1)), 1, numberOrNone{1, true}, numberOrNone{1, true}},
		{path(seq(0)), 1, numberOrNone{0, true}, numberOrNone{0, true}}, {path(seq(-5, math.MaxInt)), 2, numberOrNone{-5, true}, numberOrNone{math.MaxInt, true}},
		{path(seq(1), confSeq(2)), 1, numberOrNone{1, true}, none}, {path(seq(1), confSeq(2), seq(3)), 2, numberOrNone{1, true}, numberOrNone{3, true}},
		{path(unknown(1, 2)), 0, none, none}, {path(unknown(1), seq(2, 3), unknown(4)), 2, numberOrNone{2, true}, none}, {path(unknown(1), seq(2)), 1, numberOrNone{2, true}, numberOrNone{2, true}},
		{path(seq(count(1, 1000)...)), 1000, numberOrNone{1, true}, numberOrNone{1000, true}}, {many(set(2, 1), 100), 100, none, none}, {many(seq(6), 100), 100, numberOrNone{6, true}, numberOrNone{6, true}},
	} {
		if n := aspath.Length(c.p); n != c.length {
			t.Errorf("path %d: Length = %d", i, n)
		}
		if f := first(c.p); f != c.first {
			t.Errorf("path %d: First = %v", i, f)
		}
		if o := origin(c.p); o != c.origin {
			t.Errorf("path %d: Origin = %v", i, o)
		}
	}
}

// P17.3: numbers in segments of each kind, also of paths that are not valid.
func TestHas(t *testing.T) {
	p := path(confSeq(11, 12), confSet(13, 14), seq(15, 16, 15), set(17, 4294967295), api.Segment{Kind: 0, AS: []int{0, -1}}, seq(), api.Segment{Kind: 9, AS: []int{math.MinInt, 18}}, confSeq(19), set(21, 20))
	in := []int{11, 12, 13, 14, 15, 16, 17, 4294967295, 0, -1, math.MinInt, 18, 19, 20, 21}
	for _, as := range append(count(-3, 30), 4294967294, 4294967295, 4294967296, 1<<32+11, math.MinInt, math.MaxInt) {
		if has := aspath.Has(p, as); has != slices.Contains(in, as) {
			t.Errorf("Has %d: %v", as, has)
		}
		if aspath.Has(nil, as) || aspath.Has(path(seq(), set()), as) {
			t.Errorf("an empty path has %d", as)
		}
	}
}

// P17.5: cases that are not valid, or that have nothing to be removed.
func TestStripFlat(t *testing.T) {
	unknown := api.Segment{Kind: 5, AS: []int{8}}
	for i, c := range []struct {
		p, stripped []api.Segment
		flat        []int
	}{
		{nil, nil, nil}, {path(), nil, nil}, {path(confSeq(1), confSet(2)), nil, []int{1, 2}},
		{path(confSeq(2, 1), confSet(3), seq(5, 4, 5), set(6, 7)), path(seq(5, 4, 5), set(6, 7)), []int{2, 1, 3, 5, 4, 5, 6, 7}},
		{path(seq(1), set(2)), path(seq(1), set(2)), []int{1, 2}},
		{path(seq(1), confSeq(2), seq(3), confSet(4), confSet(4), set(5)), path(seq(1), seq(3), set(5)), []int{1, 2, 3, 4, 4, 5}},
		{path(confSeq(1), unknown, confSet(), set(9, 9, 1)), path(unknown, set(9, 9, 1)), []int{1, 8, 9, 9, 1}},
		{path(api.Segment{Kind: -3, AS: []int{-3}}, seq(), confSeq()), path(api.Segment{Kind: -3, AS: []int{-3}}, seq()), []int{-3}},
	} {
		if p := aspath.Strip(c.p); !equal(p, c.stripped) {
			t.Errorf("path %d: Strip = %v", i, p)
		}
		if l := aspath.Flat(c.p); !slices.Equal(l, c.flat) {
			t.Errorf("path %d: Flat = %v", i, l)
		}
	}
}

// P17.8
func TestSame(t *testing.T) {
	paths := [][]api.Segment{
		nil, {seq()}, {set()}, {seq(), seq()}, {seq(1)}, {set(1)}, {confSeq(1)}, {confSet(1)}, {{Kind: 0, AS: []int{1}}}, {{Kind: 9, AS: []int{1}}}, {{Kind: 1<<32 + 2, AS: []int{1}}},
		{seq(2)}, {seq(1<<32 + 1)}, {seq(-1)}, {seq(1, 2)}, {seq(2, 1)}, {seq(1, 1)}, {set(1, 2)}, {seq(1), seq(2)}, {seq(1), set(2)}, {set(2), seq(1)}, {seq(1), seq()}, {seq(), seq(1)},
		{confSeq(3), seq(1)}, {confSeq(3), seq(1), set(2)}, {confSeq(3), seq(1), set(2, 4)}, {confSeq(3), seq(1, 2)}, many(seq(1), 100), many(seq(1), 101), {seq(count(1, 300)...)}, {seq(count(1, 299)...)},
	}
	for i, a := range paths {
		for j, b := range paths {
			if same := aspath.Same(a, copied(b)); same != (i == j) {
				t.Errorf("Same(%v, %v) = %v", a, b, same)
			}
		}
	}
	if !aspath.Same(nil, path()) || !aspath.Same(path(seq()), path(seq([]int{}...))) || !aspath.Same(path(api.Segment{Kind: 2, AS: []int{}}), path(api.Segment{Kind: 2})) {
		t.Error("empty lists")
	}
}

// P17.2, P17.3, P17.5, P17.8: paths of any form.
func TestAnyQueries(t *testing.T) {
	r := rand.New(rand.NewPCG(17, 2))
	for range 5000 {
		p := anyPath(r)
		for range r.IntN(3) {
			p = damaged(r, p)
		}
		length, firstSeq := 0, -1
		for i, s := range p {
			if s.Kind == api.SegSeq {
				length += len(s.AS)
			}
			if s.Kind == api.SegSet {
				length++
			}
			if s.Kind == api.SegSeq && firstSeq < 0 {
				firstSeq = i
			}
		}
		var wantFirst, wantOrigin numberOrNone
		if firstSeq >= 0 && len(p[firstSeq].AS) > 0 {
			wantFirst = numberOrNone{p[firstSeq].AS[0], true}
		}
		if n := len(p) - 1; n >= 0 && p[n].Kind == api.SegSeq && len(p[n].AS) > 0 {
			wantOrigin = numberOrNone{p[n].AS[len(p[n].AS)-1], true}
		}
		if aspath.Length(p) != length || first(p) != wantFirst || origin(p) != wantOrigin {
			t.Fatalf("%v: %d, %v, %v", p, aspath.Length(p), first(p), origin(p))
		}
		if !slices.Equal(aspath.Flat(p), flat(p)) || !equal(aspath.Strip(p), stripped(p)) {
			t.Fatalf("%v: %v, %v", p, aspath.Flat(p), aspath.Strip(p))
		}
		q := damaged(r, p)
		if aspath.Same(p, q) != equal(p, q) || !aspath.Same(p, copied(p)) {
			t.Fatalf("Same(%v, %v) = %v", p, q, aspath.Same(p, q))
		}
		for _, as := range []int{anyNumber(r), r.IntN(10) - 2} {
			if aspath.Has(p, as) != slices.Contains(flat(p), as) {
				t.Fatalf("Has(%v, %d) = %v", p, as, aspath.Has(p, as))
			}
		}
	}
}
