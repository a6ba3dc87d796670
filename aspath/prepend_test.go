package aspath_test

import (
	"math"
	"math/rand/v2"
	"slices"
	"testing"

	"routing/api"
	"routing/aspath"
)

// agreePrepend fails unless Prepend returns what the document promises, and returns that.
func agreePrepend(t *testing.T, p []api.Segment, kind, as, n int) ([]api.Segment, api.Errno) {
	t.Helper()
	want, wantErr := prepended(p, kind, as, n)
	q, e := aspath.Prepend(p, kind, as, n)
	if e != wantErr || !equal(q, want) {
		t.Fatalf("Prepend(%v, %d, %d, %d) = %v, %v instead of %v, %v", p, kind, as, n, q, e, want, wantErr)
	}
	return q, e
}

// P17.4: the example, and the cases that the document names.
func TestPrepend(t *testing.T) {
	full, confFull := seq(count(1, 255)...), confSeq(count(1, 255)...)
	sevens := slices.Repeat([]int{7}, 255)
	for i, c := range []struct {
		p           []api.Segment
		kind, as, n int
		want        []api.Segment
	}{
		{path(seq(65001)), api.SegConfSeq, 65010, 1, path(confSeq(65010), seq(65001))},
		{nil, api.SegSeq, 7, 0, nil}, {nil, api.SegConfSeq, 7, 0, nil}, {nil, api.SegSeq, 7, 2, path(seq(7, 7))}, {nil, api.SegConfSeq, 7, 2, path(confSeq(7, 7))},
		{path(seq(1, 2)), api.SegSeq, 7, 0, path(seq(1, 2))}, {path(seq(1, 2)), api.SegSeq, 7, 2, path(seq(7, 7, 1, 2))}, {path(seq(1)), api.SegSeq, 4294967295, 1, path(seq(4294967295, 1))},
		{path(set(1, 2)), api.SegSeq, 7, 1, path(seq(7), set(1, 2))}, {path(set(1, 2), seq(3)), api.SegSeq, 7, 1, path(seq(7), set(1, 2), seq(3))},
		{path(confSeq(1)), api.SegConfSeq, 7, 1, path(confSeq(7, 1))}, {path(confSet(1)), api.SegConfSeq, 7, 2, path(confSeq(7, 7), confSet(1))},
		{path(confSet(1), confSeq(2)), api.SegConfSeq, 7, 1, path(confSeq(7), confSet(1), confSeq(2))}, {path(confSeq(1), seq(2)), api.SegConfSeq, 7, 1, path(confSeq(7, 1), seq(2))},
		{path(confSeq(1), seq(2)), api.SegSeq, 7, 0, path(confSeq(1), seq(2))}, {path(confSet(1)), api.SegSeq, 7, 0, path(confSet(1))}, {path(seq(2)), api.SegConfSeq, 7, 0, path(seq(2))},
		{nil, api.SegSeq, 7, 255, path(seq(sevens...))}, {path(seq(1)), api.SegSeq, 7, 254, path(seq(append(sevens[:254:254], 1)...))},
		{path(seq(1, 2)), api.SegSeq, 7, 254, path(seq(append(sevens[:254:254], 1)...), seq(2))}, {path(seq(1, 2)), api.SegSeq, 7, 255, path(seq(sevens...), seq(1, 2))},
		{path(full), api.SegSeq, 300, 1, path(seq(append([]int{300}, count(1, 254)...)...), seq(255))}, {path(full, seq(256)), api.SegSeq, 300, 1, path(seq(append([]int{300}, count(1, 254)...)...), seq(255, 256))},
		{path(full, full, set(1)), api.SegSeq, 7, 255, path(seq(sevens...), full, full, set(1))}, {path(confFull, confSeq(256), confSet(1), seq(2)), api.SegConfSeq, 300, 2, path(confSeq(append([]int{300, 300}, count(1, 253)...)...), confSeq(254, 255, 256), confSet(1), seq(2))},
		{path(confFull, full), api.SegConfSeq, 7, 255, path(confSeq(sevens...), confFull, full)}, {path(full, seq(1)), api.SegSeq, 7, 0, path(full, seq(1))}, {path(full), api.SegConfSeq, 7, 1, path(confSeq(7), full)},
	} {
		q, e := agreePrepend(t, c.p, c.kind, c.as, c.n)
		if e != api.OK || !equal(q, c.want) {
			t.Errorf("case %d: %v, %v", i, q, e)
		}
	}
}

// P17.4: each error, and which of several is returned.
func TestPrependErrors(t *testing.T) {
	valid, conf := path(seq(1)), path(confSeq(1), seq(2))
	for i, c := range []struct {
		p           []api.Segment
		kind, as, n int
		want        api.Errno
	}{
		{path(seq()), 0, 0, -1, api.ErrInvalid}, {path(set(2, 1)), api.SegSet, 0, 256, api.ErrOrder}, {path(seq(0)), api.SegSet, 1, 1, api.ErrRange}, {path(seq(1), seq(2)), api.SegSeq, 1, 0, api.ErrInvalid},
		{many(set(1), 65), api.SegSet, 0, 0, api.ErrTooLong}, {path(api.Segment{Kind: 7, AS: []int{1}}), api.SegSeq, 0, 1, api.ErrKind}, {path(seq(1), confSeq(1)), api.SegConfSeq, 1, 1, api.ErrInvalid},
		{valid, api.SegSet, 1, 1, api.ErrKind}, {valid, api.SegConfSet, 1, 1, api.ErrKind}, {valid, 0, 1, 1, api.ErrKind}, {valid, 5, 1, 0, api.ErrKind}, {valid, -1, 1, 1, api.ErrKind}, {valid, 1<<32 + 2, 1, 1, api.ErrKind}, {valid, 258, 1, 1, api.ErrKind},
		{nil, api.SegSet, 1, 0, api.ErrKind}, {valid, api.SegSet, 0, 256, api.ErrKind}, {conf, api.SegConfSet, 0, 1, api.ErrKind}, {many(set(1), 64), api.SegSet, 1, 1, api.ErrKind},
		{valid, api.SegSeq, 0, 1, api.ErrRange}, {valid, api.SegSeq, -1, 1, api.ErrRange}, {valid, api.SegSeq, 4294967296, 1, api.ErrRange}, {valid, api.SegSeq, 1<<32 + 1, 1, api.ErrRange}, {valid, api.SegSeq, math.MinInt, 1, api.ErrRange},
		{valid, api.SegSeq, 0, 0, api.ErrRange}, {nil, api.SegConfSeq, 4294967296, 0, api.ErrRange}, {valid, api.SegConfSeq, math.MaxInt, 1, api.ErrRange},
		{valid, api.SegSeq, 1, -1, api.ErrRange}, {valid, api.SegSeq, 1, 256, api.ErrRange}, {valid, api.SegConfSeq, 1, 256, api.ErrRange}, {valid, api.SegSeq, 1, math.MinInt, api.ErrRange}, {valid, api.SegSeq, 1, math.MaxInt, api.ErrRange}, {nil, api.SegSeq, 1, 1 << 32, api.ErrRange},
		{conf, api.SegSeq, 0, 1, api.ErrRange}, {conf, api.SegSeq, 1, 256, api.ErrRange}, {conf, api.SegSeq, 1, -1, api.ErrRange}, {many(set(1), 64), api.SegSeq, 1, 256, api.ErrRange},
		{conf, api.SegSeq, 1, 1, api.ErrInvalid}, {path(confSet(1)), api.SegSeq, 1, 255, api.ErrInvalid}, {path(confSet(1), confSeq(1), set(2)), api.SegSeq, 1, 1, api.ErrInvalid}, {many(confSet(1), 64), api.SegSeq, 1, 1, api.ErrInvalid},
		{many(set(1), 64), api.SegSeq, 1, 1, api.ErrTooLong}, {many(set(1), 64), api.SegConfSeq, 1, 1, api.ErrTooLong}, {many(confSet(1), 64), api.SegConfSeq, 1, 1, api.ErrTooLong},
	} {
		if q, e := agreePrepend(t, c.p, c.kind, c.as, c.n); e != c.want || len(q) != 0 {
			t.Errorf("case %d: %v, %v instead of %v", i, q, e, c.want)
		}
	}
}

// P17.4: paths with as many segments as possible.
func TestPrependLimits(t *testing.T) {
	for _, kind := range []int{api.SegSeq, api.SegConfSeq} {
		full := api.Segment{Kind: kind, AS: count(1, 255)}
		other := confSet(1)
		if kind == api.SegSeq {
			other = set(1)
		}
		for _, c := range []struct {
			p    []api.Segment
			most int // numbers for which there is room
		}{
			{many(full, 64), 0}, {append(many(full, 63), api.Segment{Kind: kind, AS: []int{1}}), 254}, {append(many(full, 63), api.Segment{Kind: kind, AS: count(1, 200)}), 55}, {many(full, 63), 255},
			{many(other, 64), 0}, {many(other, 63), 255}, {append(path(full), many(other, 63)...), 0}, {append(path(full), many(other, 62)...), 255},
			{append(path(api.Segment{Kind: kind, AS: count(1, 250)}), many(other, 63)...), 5}, {append(path(api.Segment{Kind: kind, AS: []int{1}}), many(other, 62)...), 255},
		} {
			for _, n := range []int{0, 1, c.most - 1, c.most, c.most + 1, 255} {
				if n < 0 || n > 255 {
					continue
				}
				_, e := agreePrepend(t, c.p, kind, 7, n)
				if (e == api.OK) != (n <= c.most) || e != api.OK && e != api.ErrTooLong {
					t.Errorf("%d segments, %d numbers: %v", len(c.p), n, e)
				}
			}
		}
	}
}

// P17.4, P17.10
func TestPrependAnyPath(t *testing.T) {
	r := rand.New(rand.NewPCG(17, 4))
	for range 10000 {
		p := anyPath(r)
		if r.IntN(10) == 0 {
			p = damaged(r, p)
		}
		kind, as, n := []int{api.SegSeq, api.SegSeq, api.SegConfSeq, r.IntN(6)}[r.IntN(4)], anyNumber(r), r.IntN(4)
		switch r.IntN(10) {
		case 0:
			n = 230 + r.IntN(27)
		case 1:
			n = r.IntN(258) - 1
		case 2:
			as = r.IntN(3) - 1
		}
		q, e := agreePrepend(t, p, kind, as, n)
		if e != api.OK {
			continue
		}
		before := slices.Repeat([]int{as}, n)
		if aspath.Check(q) != api.OK || !slices.Equal(aspath.Flat(q), append(before, aspath.Flat(p)...)) {
			t.Fatalf("Prepend(%v, %d, %d, %d) = %v", p, kind, as, n, q)
		}
		if kind != api.SegSeq {
			continue
		}
		if aspath.Length(q) != aspath.Length(p)+n || n > 0 && first(q) != (numberOrNone{as, true}) {
			t.Fatalf("Prepend(%v, %d, %d, %d) = %v", p, kind, as, n, q)
		}
	}
}
