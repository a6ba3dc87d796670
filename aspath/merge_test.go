package aspath_test

import (
	"math/rand/v2"
	"slices"
	"testing"

	"routing/api"
	"routing/aspath"
)

// agreeMerge fails unless Merge returns what the document promises, in both orders of valid paths, and returns that.
func agreeMerge(t *testing.T, a, b []api.Segment) ([]api.Segment, api.Errno) {
	t.Helper()
	want, wantErr := merged(a, b)
	m, e := aspath.Merge(a, b)
	if e != wantErr || !equal(m, want) {
		t.Fatalf("Merge(%v, %v) = %v, %v instead of %v, %v", a, b, m, e, want, wantErr)
	}
	if checked(a) != api.OK || checked(b) != api.OK {
		return m, e
	}
	if back, f := aspath.Merge(b, a); f != e || !equal(back, m) {
		t.Fatalf("Merge(%v, %v) = %v, %v, but %v, %v in the other order", a, b, m, e, back, f)
	}
	numbers := ascending(append(flat(stripped(a)), flat(stripped(b))...))
	if e == api.OK && (aspath.Check(m) != api.OK || !slices.Equal(ascending(aspath.Flat(m)), numbers)) {
		t.Fatalf("Merge(%v, %v) = %v", a, b, m)
	}
	return m, e
}

// P17.7: the example, and the cases that the document names.
func TestMerge(t *testing.T) {
	long, full := count(1, 600), seq(count(1, 255)...)
	for i, c := range []struct{ a, b, want []api.Segment }{
		{path(seq(65001, 65002, 65003)), path(seq(65001, 65004)), path(seq(65001), set(65002, 65003, 65004))},
		{nil, nil, nil}, {path(seq(1)), nil, path(set(1))}, {path(set(1, 2)), nil, path(set(1, 2))}, {path(confSeq(1)), nil, nil}, {path(confSeq(1), confSet(2)), path(confSet(3)), nil},
		{path(seq(1, 2)), path(seq(1, 2)), path(seq(1, 2))}, {path(seq(1, 2)), path(seq(1)), path(seq(1), set(2))}, {path(seq(1, 2)), path(seq(2, 1)), path(set(1, 2))}, {path(seq(3, 2, 1)), path(seq(3, 1, 2)), path(seq(3), set(1, 2))},
		{path(seq(1, 1, 1)), path(seq(1)), path(seq(1), set(1))}, {path(seq(5, 5, 4, 4)), path(seq(6, 6)), path(set(4, 5, 6))}, {path(seq(1, 2, 1)), path(seq(1, 2, 2)), path(seq(1, 2), set(1, 2))},
		{path(confSeq(9), seq(1, 2)), path(seq(1, 3)), path(seq(1), set(2, 3))}, {path(confSeq(9), seq(1, 2)), path(confSet(8), seq(1, 2)), path(seq(1, 2))}, {path(confSeq(9, 8), confSet(7), set(1)), path(seq(9)), path(set(1, 9))},
		{path(seq(1), set(2, 3)), path(seq(1), set(2, 3)), path(seq(1), set(2, 3))}, {path(set(1)), path(set(1)), path(set(1))}, {path(set(1), seq(2)), path(set(1), seq(2)), path(set(1, 2))}, {path(seq(1), set(2), seq(3, 4)), path(seq(1), set(2), seq(3, 4)), path(seq(1), set(2, 3, 4))},
		{path(seq(1), set(2)), path(seq(1, 2)), path(seq(1), set(2))}, {path(seq(1, 2), set(3)), path(seq(1), set(2), seq(3)), path(seq(1), set(2, 3))}, {path(set(1), seq(1, 2)), path(seq(1, 2)), path(set(1, 2))}, {path(set(1), set(1), set(2)), path(set(2)), path(set(1, 2))},
		{divided(api.SegSeq, long), divided(api.SegSeq, long), divided(api.SegSeq, long)}, {divided(api.SegSeq, long), divided(api.SegSeq, long[:510]), append(divided(api.SegSeq, long[:510]), set(count(511, 90)...))}, {divided(api.SegSeq, long), divided(api.SegSeq, long[:500]), append(divided(api.SegSeq, long[:500]), set(count(501, 100)...))},
		{path(full, set(1)), path(full, seq(1)), path(full, set(1))}, {path(full, seq(7)), path(full, seq(8)), path(full, set(7, 8))}, {path(seq(count(1, 254)...)), path(full), path(seq(count(1, 254)...), set(255))},
	} {
		m, e := agreeMerge(t, c.a, c.b)
		if e != api.OK || !equal(m, c.want) {
			t.Errorf("case %d: %v, %v", i, m, e)
		}
	}
}

// P17.7: each error, and which of several is returned.
func TestMergeErrors(t *testing.T) {
	unknown := path(api.Segment{Kind: 9, AS: []int{1}})
	for i, c := range []struct {
		a, b []api.Segment
		want api.Errno
	}{
		{unknown, path(seq(0)), api.ErrKind}, {path(seq(0)), unknown, api.ErrRange}, {path(seq()), path(set(2, 1)), api.ErrInvalid}, {path(set(2, 1)), path(seq()), api.ErrOrder}, {path(seq(1)), path(set(2, 1)), api.ErrOrder}, {path(set(2, 1)), path(seq(1)), api.ErrOrder},
		{nil, path(seq(0)), api.ErrRange}, {path(seq(0)), nil, api.ErrRange}, {path(seq(1), confSeq(1)), nil, api.ErrInvalid}, {nil, path(seq(1), seq(1)), api.ErrInvalid}, {many(set(1), 65), unknown, api.ErrTooLong}, {unknown, many(set(1), 65), api.ErrKind}, {nil, many(set(1), 65), api.ErrTooLong},
		// Errors in segments that are not in the result.
		{path(confSet(2, 1), seq(1)), path(seq(1)), api.ErrOrder}, {path(seq(1)), path(confSeq(0), seq(1)), api.ErrRange}, {path(confSeq(1), confSeq(1)), nil, api.ErrInvalid},
		// The error of Check comes before that of a result that is too long.
		{path(set(count(1, 255)...)), path(set(count(2, 255)...), seq(0)), api.ErrRange},
		{path(set(count(1, 255)...)), path(set(count(2, 255)...)), api.ErrTooLong}, {path(seq(1), set(count(1, 255)...)), path(seq(1000)), api.ErrTooLong}, {divided(api.SegSeq, count(1, 256)), nil, api.ErrTooLong}, {divided(api.SegSeq, count(1, 300)), path(seq(1)), api.ErrTooLong},
		{path(set(count(1, 128)...)), path(set(count(129, 128)...)), api.ErrTooLong}, {path(seq(count(1, 200)...)), path(seq(count(301, 56)...)), api.ErrTooLong},
	} {
		if m, e := agreeMerge(t, c.a, c.b); e != c.want || len(m) != 0 {
			t.Errorf("case %d: %v, %v instead of %v", i, m, e, c.want)
		}
	}
}

// P17.7: sets and results that are as long as possible.
func TestMergeLimits(t *testing.T) {
	for _, c := range []struct {
		a, b []api.Segment
		size int // of the set
	}{
		{path(set(count(1, 255)...)), nil, 255}, {path(seq(count(1, 255)...)), path(seq(count(2, 254)...)), 255}, {path(set(count(1, 128)...)), path(set(count(129, 127)...)), 255}, {divided(api.SegSeq, count(1, 256)), path(seq(1)), 255},
		{divided(api.SegSeq, slices.Repeat([]int{7}, 1000)), nil, 1}, {many(set(7, 8), 64), many(set(8, 9), 64), 3}, {append(many(confSet(1, 2), 63), set(count(1, 200)...)), append(many(confSet(3), 63), set(count(1, 255)...)), 255},
		{path(confSeq(count(1000, 255)...), seq(count(1, 255)...)), path(confSet(count(2000, 255)...), seq(2)), 255},
	} {
		m, e := agreeMerge(t, c.a, c.b)
		if e != api.OK || len(m) == 0 || m[len(m)-1].Kind != api.SegSet || len(m[len(m)-1].AS) != c.size {
			t.Errorf("set of %d numbers: %v, %v", c.size, m, e)
		}
	}
	const most = maxSegments * maxNumbers
	whole := slices.Repeat(count(1, 16), most/16)
	ends := func(n int, end ...int) []api.Segment { return divided(api.SegSeq, append(whole[:n:n], end...)) }
	for _, c := range []struct {
		a, b     []api.Segment
		segments int
	}{
		{ends(most), ends(most), 64}, {ends(most), ends(most - 1), 0}, {ends(most-1, 70), ends(most-1, 71), 0}, {ends(most-255, 70), ends(most-255, 71), 64}, {ends(most-255, 70), ends(most - 255), 64},
		{ends(most-254, 70), ends(most - 254), 0}, {ends(most-254, 70), ends(most-254, 70), 64}, {ends(most - 255), ends(most - 255), 63}, {append(ends(most-255), set(1)), ends(most - 255), 64}, {append(ends(most-255), set(1)), ends(most - 254), 64},
	} {
		m, e := agreeMerge(t, c.a, c.b)
		if len(m) != c.segments || (e == api.OK) != (c.segments > 0) {
			t.Errorf("%d segments: %d, %v", c.segments, len(m), e)
		}
	}
}

// P17.7, P17.11: all pairs of paths of few segments.
func TestMergeSmallPaths(t *testing.T) {
	paths := smallPaths(path(seq(1), seq(2, 1), seq(1, 2, 3), seq(1, 3), set(1), set(1, 2), set(3), confSeq(1), confSet(4)), 3)
	if len(paths) < 200 {
		t.Error("only", len(paths), "paths")
	}
	for _, a := range paths {
		for _, b := range paths {
			agreeMerge(t, a, b)
		}
	}
}

// P17.7, P17.11
func TestMergeAnyPaths(t *testing.T) {
	r := rand.New(rand.NewPCG(17, 7))
	for range 5000 {
		a, b := anyPath(r), anyPath(r)
		if r.IntN(2) == 0 {
			// A path that begins like the other one.
			numbers := flat(a)
			n := r.IntN(len(numbers) + 1)
			b = append(divided(api.SegSeq, numbers[:n]), set(anyNumber(r)))
		}
		if r.IntN(10) == 0 {
			a = damaged(r, a)
		}
		if r.IntN(10) == 0 {
			b = damaged(r, b)
		}
		agreeMerge(t, a, b)
		var numbers []int
		for range 1 + r.IntN(3) {
			numbers = append(numbers, anyNumbers(r)...)
		}
		p := divided(api.SegSeq, numbers)
		if m, e := aspath.Merge(p, p); e != api.OK || !equal(m, p) {
			t.Fatalf("Merge of %v with itself: %v, %v", p, m, e)
		}
		if m, e := aspath.Merge(append(path(confSeq(numbers[0])), p...), p); e != api.OK || !equal(m, p) {
			t.Fatalf("Merge of %v with itself and a confederation: %v, %v", p, m, e)
		}
	}
}
