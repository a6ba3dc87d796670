package aspath_test

import (
	"math"
	"math/rand/v2"
	"testing"

	"routing/api"
	"routing/aspath"
)

// P17.1: valid paths.
func TestCheckValid(t *testing.T) {
	full, confFull := seq(count(1, 255)...), confSeq(count(1, 255)...)
	for i, p := range [][]api.Segment{
		nil, {}, {seq(1)}, {set(1)}, {confSeq(1)}, {confSet(1)}, {seq(4294967295)}, {set(1, 4294967295)}, {confSet(1, 2, 4294967295)},
		{seq(2, 1)}, {seq(1, 1)}, {confSeq(2, 2, 1)}, {full}, {set(count(1, 255)...)}, {confFull}, {confSet(count(1, 255)...)},
		{full, full}, {full, seq(1)}, {full, full, seq(1)}, {confFull, confFull}, {confFull, confSeq(1)}, {set(1), set(1)}, {confSet(1), confSet(1)},
		{seq(1), set(1), seq(1)}, {confSeq(1), confSet(1), confSeq(1)}, {confSeq(1), seq(1)}, {confSet(1), set(1)}, {confSeq(1), confSet(2), seq(1), set(2), seq(3)},
		many(set(1), 64), many(confSet(1), 64), many(full, 64), many(confFull, 64), append(many(full, 63), seq(1)),
		append(many(confSet(5), 32), many(set(5), 32)...),
	} {
		if e := aspath.Check(p); e != api.OK || checked(p) != api.OK {
			t.Errorf("path %d: %v", i, e)
		}
	}
}

// P17.1: each error, in each kind of segment.
func TestCheckErrors(t *testing.T) {
	for _, kind := range []int{0, 5, -1, -2, 258, 1<<32 + 2, math.MinInt, math.MaxInt} {
		if e := aspath.Check(path(api.Segment{Kind: kind, AS: []int{1}})); e != api.ErrKind {
			t.Errorf("kind %d: %v", kind, e)
		}
	}
	for kind := api.SegSet; kind <= api.SegConfSet; kind++ {
		order := api.OK
		if isSet(kind) {
			order = api.ErrOrder
		}
		for _, c := range []struct {
			numbers []int
			want    api.Errno
		}{
			{nil, api.ErrInvalid}, {[]int{}, api.ErrInvalid}, {count(1, 256), api.ErrTooLong}, {count(1, 1000), api.ErrTooLong},
			{[]int{0}, api.ErrRange}, {[]int{-1}, api.ErrRange}, {[]int{4294967296}, api.ErrRange}, {[]int{math.MinInt}, api.ErrRange}, {[]int{math.MaxInt}, api.ErrRange},
			{[]int{1<<32 + 1}, api.ErrRange}, {[]int{1, 2, 0}, api.ErrRange}, {[]int{0, 1, 2}, api.ErrRange}, {[]int{1, 4294967296}, api.ErrRange},
			{[]int{2, 1}, order}, {[]int{1, 1}, order}, {[]int{1, 3, 2}, order}, {[]int{1, 2, 3, 3}, order}, {[]int{4294967295, 1}, order},
		} {
			if e := aspath.Check(path(api.Segment{Kind: kind, AS: c.numbers})); e != c.want {
				t.Errorf("kind %d with %v: %v instead of %v", kind, c.numbers, e, c.want)
			}
		}
	}
	short, confShort := seq(count(1, 254)...), confSeq(count(1, 254)...)
	full := seq(count(1, 255)...)
	for i, p := range [][]api.Segment{
		{seq(1), confSeq(1)}, {seq(1), confSet(1)}, {set(1), confSeq(1)}, {set(1), confSet(1)}, {full, confSeq(1)}, {confSeq(1), seq(1), confSeq(1)}, {confSet(1), set(1), confSet(1)},
		{seq(1), seq(1)}, {short, seq(1)}, {short, full}, {full, short, seq(1)}, {confSeq(1), confSeq(1)}, {confShort, confSeq(1)}, {set(1), seq(1), seq(2)}, {confSet(1), confSeq(1), confSeq(2)},
	} {
		if e := aspath.Check(p); e != api.ErrInvalid {
			t.Errorf("path %d, %v: %v", i, p, e)
		}
	}
}

// P17.1: which of several errors is returned.
func TestCheckFirstError(t *testing.T) {
	unknown := func(as ...int) api.Segment { return api.Segment{Kind: 9, AS: as} }
	for i, c := range []struct {
		p    []api.Segment
		want api.Errno
	}{
		{many(unknown(), 65), api.ErrTooLong}, {many(set(2, 1), 65), api.ErrTooLong}, {many(set(1), 65), api.ErrTooLong}, {many(seq(0), 1000), api.ErrTooLong}, {many(seq(1), 65), api.ErrTooLong},
		{path(unknown()), api.ErrKind}, {path(unknown(count(0, 300)...)), api.ErrKind}, {path(unknown(0)), api.ErrKind}, {path(seq(1), unknown()), api.ErrKind},
		{path(set(count(0, 256)...)), api.ErrTooLong}, {path(seq(make([]int, 256)...)), api.ErrTooLong}, {path(seq(1), confSeq(count(1, 256)...)), api.ErrTooLong},
		{path(set(2, 1, 0)), api.ErrRange}, {path(set(1, 1, 4294967296)), api.ErrRange}, {path(seq(1), confSet(2, 1, 0)), api.ErrRange}, {path(seq(1), seq(0)), api.ErrRange},
		{path(seq(1), confSet(2, 1)), api.ErrOrder}, {path(set(1), confSet(1, 1)), api.ErrOrder}, {path(seq(1), confSeq()), api.ErrInvalid},
		{path(seq(), unknown(1)), api.ErrInvalid}, {path(unknown(1), seq()), api.ErrKind}, {path(set(2, 1), seq(0)), api.ErrOrder}, {path(seq(0), set(2, 1)), api.ErrRange},
		{path(seq(1), seq(1), unknown(1)), api.ErrInvalid}, {path(seq(1), confSeq(1), set(2, 1)), api.ErrInvalid}, {path(seq(count(1, 256)...), seq(0)), api.ErrTooLong},
		{append(many(set(1), 63), set(0)), api.ErrRange}, {append(many(set(1), 64), set(0)), api.ErrTooLong}, {append(many(set(1), 63), confSet(1)), api.ErrInvalid},
	} {
		if e := aspath.Check(c.p); e != c.want || checked(c.p) != c.want {
			t.Errorf("path %d: %v instead of %v", i, e, c.want)
		}
	}
}

// P17.1: all paths of few segments.
func TestCheckSmallPaths(t *testing.T) {
	segments := smallSegments()
	found := map[api.Errno]int{}
	agree := func(p ...api.Segment) bool {
		want := checked(p)
		found[want]++
		e := aspath.Check(p)
		if e != want {
			t.Errorf("Check(%v) = %v instead of %v", p, e, want)
		}
		return e == api.OK
	}
	for _, a := range segments {
		agree(a)
		for _, b := range segments {
			if !agree(a, b) {
				continue
			}
			for _, c := range segments {
				agree(a, b, c)
			}
		}
	}
	for _, e := range []api.Errno{api.OK, api.ErrKind, api.ErrInvalid, api.ErrTooLong, api.ErrRange, api.ErrOrder} {
		if found[e] < 100 {
			t.Errorf("only %d paths with %v", found[e], e)
		}
	}
}

// P17.1
func TestCheckAnyPath(t *testing.T) {
	r := rand.New(rand.NewPCG(17, 1))
	for range 5000 {
		p := anyPath(r)
		if e := aspath.Check(p); e != api.OK || checked(p) != api.OK {
			t.Fatalf("Check(%v) = %v", p, e)
		}
		for range 3 {
			p = damaged(r, p)
			if e := aspath.Check(p); e != checked(p) {
				t.Fatalf("Check(%v) = %v instead of %v", p, e, checked(p))
			}
		}
	}
}
