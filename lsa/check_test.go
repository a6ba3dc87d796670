package lsa_test

import (
	"math"
	"math/rand/v2"
	"slices"
	"testing"

	"routing/api"
	"routing/lsa"
)

// head returns a valid header of a type, of the router 7.
func head(kind int) api.LSAHeader {
	h := api.LSAHeader{Type: kind, ID: 7, Router: 7, Seq: 1}
	if kind == 3 || kind == 5 {
		h.ID, h.Len = 0x0a000000, 8
	}
	return h
}

// plain returns a valid advertisement of a type, of the router 7.
func plain(kind int) api.LSA {
	l := api.LSA{Header: head(kind)}
	if kind == 2 {
		l.Attached = []uint32{7}
	}
	return l
}

// with returns the header after a change.
func with(h api.LSAHeader, change func(*api.LSAHeader)) api.LSAHeader {
	change(&h)
	return h
}

// checkAnyHeader compares all functions that check headers with the definition.
func checkAnyHeader(t *testing.T, h api.LSAHeader, want api.Errno) {
	t.Helper()
	if e := headerError(h); e != want {
		t.Errorf("the definition itself: %v has %v, not %v", h, e, want)
	}
	if _, e := lsa.EncodeHeader(h); e != want {
		t.Errorf("EncodeHeader(%v): %v, not %v", h, e, want)
	}
	l := api.LSA{Header: h}
	if h.Type == 2 {
		l.Attached = []uint32{h.Router}
	}
	if e := lsa.Check(l); e != want {
		t.Errorf("Check(%v): %v, not %v", l, e, want)
	}
}

// P23.1, P23.6: the limits of all fields of a header.
func TestHeaderLimits(t *testing.T) {
	for kind := 1; kind <= 5; kind++ {
		checkAnyHeader(t, head(kind), api.OK)
		fields := []func(h *api.LSAHeader) *int{
			func(h *api.LSAHeader) *int { return &h.Seq },
			func(h *api.LSAHeader) *int { return &h.Age },
			func(h *api.LSAHeader) *int { return &h.Sum },
		}
		limits := [][2]int{{1, maxSeq}, {0, maxAge}, {0, 65535}}
		for i, field := range fields {
			for _, x := range wrong {
				want := api.OK
				if x < limits[i][0] || x > limits[i][1] {
					want = api.ErrRange
				}
				checkAnyHeader(t, with(head(kind), func(h *api.LSAHeader) { *field(h) = x }), want)
			}
		}
		checkAnyHeader(t, with(head(kind), func(h *api.LSAHeader) { h.Router = 0 }), api.ErrRange)
		if kind != 1 {
			checkAnyHeader(t, with(head(kind), func(h *api.LSAHeader) { h.Router = math.MaxUint32 }), api.OK)
		}
	}
	for _, x := range wrong {
		want := api.ErrKind
		if x >= 1 && x <= 5 {
			continue
		}
		checkAnyHeader(t, api.LSAHeader{Type: x}, want)
		checkAnyHeader(t, api.LSAHeader{Type: x, ID: 7, Router: 7, Seq: 1}, want)
	}
}

// P23.1: lengths and identities, type by type, and the order of errors.
func TestHeaderIdentity(t *testing.T) {
	for _, x := range []struct {
		h api.LSAHeader
		e api.Errno
	}{
		{api.LSAHeader{Type: 1, ID: 8, Router: 7, Seq: 1}, api.ErrMismatch},
		{api.LSAHeader{Type: 1, ID: 0, Router: 7, Seq: 1}, api.ErrMismatch},
		{api.LSAHeader{Type: 1, ID: 8, Len: 1, Router: 7, Seq: 1}, api.ErrRange},
		{api.LSAHeader{Type: 1, ID: 7, Len: -1, Router: 7, Seq: 1}, api.ErrRange},
		{api.LSAHeader{Type: 1, ID: 0, Len: 0, Router: 0, Seq: 1}, api.ErrRange},
		{api.LSAHeader{Type: 2, ID: 0, Router: 7, Seq: 1}, api.ErrInvalid},
		{api.LSAHeader{Type: 2, ID: 0, Len: 33, Router: 7, Seq: 1}, api.ErrRange},
		{api.LSAHeader{Type: 2, ID: 0, Len: -1, Router: 7, Seq: 1}, api.ErrRange},
		{api.LSAHeader{Type: 2, ID: 0x0a000001, Len: 0, Router: 7, Seq: 1}, api.OK},
		{api.LSAHeader{Type: 2, ID: 0x0a000001, Len: 8, Router: 7, Seq: 1}, api.OK},
		{api.LSAHeader{Type: 2, ID: 0x0a000001, Len: 32, Router: 7, Seq: 1}, api.OK},
		{api.LSAHeader{Type: 3, ID: 0, Len: 0, Router: 7, Seq: 1}, api.OK},
		{api.LSAHeader{Type: 3, ID: 1, Len: 0, Router: 7, Seq: 1}, api.ErrInvalid},
		{api.LSAHeader{Type: 3, ID: 1, Len: 31, Router: 7, Seq: 1}, api.ErrInvalid},
		{api.LSAHeader{Type: 3, ID: 1, Len: 32, Router: 7, Seq: 1}, api.OK},
		{api.LSAHeader{Type: 3, ID: 1, Len: 33, Router: 7, Seq: 1}, api.ErrRange},
		{api.LSAHeader{Type: 3, ID: 0, Len: -1, Router: 7, Seq: 1}, api.ErrRange},
		{api.LSAHeader{Type: 4, ID: 0, Router: 7, Seq: 1}, api.ErrInvalid},
		{api.LSAHeader{Type: 4, ID: 0, Len: 1, Router: 7, Seq: 1}, api.ErrRange},
		{api.LSAHeader{Type: 4, ID: 8, Len: 32, Router: 7, Seq: 1}, api.ErrRange},
		{api.LSAHeader{Type: 4, ID: 7, Router: 7, Seq: 1}, api.OK},
		{api.LSAHeader{Type: 5, ID: 0, Len: 0, Router: 7, Seq: 1}, api.OK},
		{api.LSAHeader{Type: 5, ID: 0x0a000001, Len: 8, Router: 7, Seq: 1}, api.ErrInvalid},
		{api.LSAHeader{Type: 5, ID: 0x0a000001, Len: 32, Router: 7, Seq: 0}, api.ErrRange},
		{api.LSAHeader{Type: 5, ID: 0x0a000000, Len: 33, Router: 7, Seq: 1}, api.ErrRange},
	} {
		checkAnyHeader(t, x.h, x.e)
	}
}

// P23.1: each field belongs to the types of the table alone.
func TestForeignFields(t *testing.T) {
	fields := []struct {
		change func(*api.LSA)
		types  []int
	}{
		{func(l *api.LSA) { l.Border = true }, []int{1}},
		{func(l *api.LSA) { l.Boundary = true }, []int{1}},
		{func(l *api.LSA) { l.Links = []api.LSLink{{Kind: 2, Cost: 1}} }, []int{1}},
		{func(l *api.LSA) { l.Attached = []uint32{7, 8} }, []int{2}},
		{func(l *api.LSA) { l.Cost = 1 }, []int{3, 4, 5}},
		{func(l *api.LSA) { l.Second = true }, []int{5}},
		{func(l *api.LSA) { l.Forward = 1 }, []int{5}},
		{func(l *api.LSA) { l.Tag = 1 }, []int{5}},
	}
	for kind := 1; kind <= 5; kind++ {
		empty := plain(kind)
		empty.Links = []api.LSLink{}
		if kind != 2 {
			empty.Attached = []uint32{}
		}
		if e := lsa.Check(empty); e != api.OK {
			t.Errorf("type %d with empty lists: %v", kind, e)
		}
		for i, f := range fields {
			l := plain(kind)
			f.change(&l)
			want := api.ErrInvalid
			if slices.Contains(f.types, kind) {
				want = api.OK
			}
			if e := lsa.Check(l); e != want {
				t.Errorf("type %d with field %d: %v, not %v", kind, i, e, want)
			}
		}
	}
	// The fields come after the header and before the lists.
	l := plain(1)
	l.Tag, l.Links = 1, make([]api.LSLink, 65)
	if e := lsa.Check(l); e != api.ErrInvalid {
		t.Error("a router with a tag and too many links", e)
	}
	l.Header.ID = 8
	if e := lsa.Check(l); e != api.ErrMismatch {
		t.Error("a router with another ID", e)
	}
}

// links returns n links in order.
func links(n int) []api.LSLink {
	var l []api.LSLink
	for i := range n {
		l = append(l, api.LSLink{Kind: 2, ID: uint32(i / 3), Data: uint32(i % 3), Cost: 1})
	}
	return l
}

// P23.1: the links of a router.
func TestCheckLinks(t *testing.T) {
	for _, x := range []struct {
		l []api.LSLink
		e api.Errno
	}{
		{links(64), api.OK},
		{links(65), api.ErrTooLong},
		{make([]api.LSLink, 65), api.ErrTooLong},
		{make([]api.LSLink, 64), api.ErrKind},
		{[]api.LSLink{{Kind: 4, Cost: 1}}, api.ErrKind},
		{[]api.LSLink{{Kind: -1}}, api.ErrKind},
		{[]api.LSLink{{Kind: 1}}, api.ErrRange},
		{[]api.LSLink{{Kind: 1, ID: 1, Cost: 65536}}, api.ErrRange},
		{[]api.LSLink{{Kind: 1, ID: 1, Cost: 65535}}, api.OK},
		{[]api.LSLink{{Kind: 1, ID: 1, Cost: -1}}, api.ErrRange},
		{[]api.LSLink{{Kind: 1, Cost: 1}}, api.ErrInvalid},
		{[]api.LSLink{{Kind: 1, ID: 7, Cost: 1}}, api.ErrInvalid},
		{[]api.LSLink{{Kind: 1, ID: 1, Data: 99, Cost: 1}}, api.OK},
		{[]api.LSLink{{Kind: 2, Cost: 1}}, api.OK},
		{[]api.LSLink{{Kind: 2, ID: 7, Data: 7, Cost: 1}}, api.OK},
		{[]api.LSLink{{Kind: 2, ID: 7, Data: 7}}, api.ErrRange},
		{[]api.LSLink{{Kind: 3, Cost: 1}}, api.OK},
		{[]api.LSLink{{Kind: 3, ID: 7, Data: 32, Cost: 1}}, api.OK},
		{[]api.LSLink{{Kind: 3, ID: 7, Data: 33, Cost: 1}}, api.ErrInvalid},
		{[]api.LSLink{{Kind: 3, ID: 0, Data: 33, Cost: 1}}, api.ErrInvalid},
		{[]api.LSLink{{Kind: 3, ID: 0, Data: math.MaxUint32, Cost: 1}}, api.ErrInvalid},
		{[]api.LSLink{{Kind: 3, ID: 7, Data: 31, Cost: 1}}, api.ErrInvalid},
		// The order is by Kind, ID and Data, not by Cost.
		{[]api.LSLink{{Kind: 1, ID: 9, Data: 9, Cost: 9}, {Kind: 2, ID: 0, Data: 0, Cost: 1}}, api.OK},
		{[]api.LSLink{{Kind: 2, ID: 1, Data: 9, Cost: 9}, {Kind: 2, ID: 2, Data: 0, Cost: 1}}, api.OK},
		{[]api.LSLink{{Kind: 2, ID: 1, Data: 1, Cost: 9}, {Kind: 2, ID: 1, Data: 2, Cost: 1}}, api.OK},
		{[]api.LSLink{{Kind: 2, ID: 1, Data: 1, Cost: 1}, {Kind: 2, ID: 1, Data: 1, Cost: 2}}, api.ErrOrder},
		{[]api.LSLink{{Kind: 2, ID: 1, Data: 2, Cost: 1}, {Kind: 2, ID: 1, Data: 1, Cost: 2}}, api.ErrOrder},
		{[]api.LSLink{{Kind: 2, ID: 2, Data: 1, Cost: 1}, {Kind: 2, ID: 1, Data: 2, Cost: 2}}, api.ErrOrder},
		{[]api.LSLink{{Kind: 2, ID: 1, Data: 1, Cost: 1}, {Kind: 1, ID: 2, Data: 2, Cost: 2}}, api.ErrOrder},
		// The first link with an error decides, and for one link the error named first.
		{[]api.LSLink{{Kind: 2, Cost: 0}, {Kind: 0, Cost: 1}}, api.ErrRange},
		{[]api.LSLink{{Kind: 2, ID: 1, Cost: 1}, {Kind: 1, Cost: 1}}, api.ErrInvalid},
		{[]api.LSLink{{Kind: 2, ID: 1, Cost: 1}, {Kind: 2, Cost: 1}, {Kind: 0}}, api.ErrOrder},
	} {
		l := plain(1)
		l.Links = x.l
		if e := lsa.Check(l); e != x.e {
			t.Errorf("links %v: %v, not %v", x.l, e, x.e)
		}
	}
}

// P23.1: the routers of a network.
func TestCheckAttached(t *testing.T) {
	many := []uint32{7}
	for i := range uint32(63) {
		many = append(many, 8+i)
	}
	for _, x := range []struct {
		l []uint32
		e api.Errno
	}{
		{nil, api.ErrMismatch},
		{[]uint32{6}, api.ErrMismatch},
		{[]uint32{6, 8}, api.ErrMismatch},
		{[]uint32{6, 7, 8}, api.OK},
		{[]uint32{7, math.MaxUint32}, api.OK},
		{[]uint32{7, 6}, api.ErrOrder},
		{[]uint32{6, 6}, api.ErrOrder},
		{[]uint32{7, 7}, api.ErrOrder},
		{[]uint32{0, 7}, api.ErrOrder},
		{[]uint32{0}, api.ErrOrder},
		{many, api.OK},
		{append(slices.Clone(many), 99), api.ErrTooLong},
		{make([]uint32, 65), api.ErrTooLong},
		{make([]uint32, 64), api.ErrOrder},
	} {
		l := plain(2)
		l.Attached = x.l
		if e := lsa.Check(l); e != x.e {
			t.Errorf("attached %v: %v, not %v", x.l, e, x.e)
		}
	}
}

// P23.1: costs and tags.
func TestCheckCosts(t *testing.T) {
	for _, x := range wrong {
		for kind := 3; kind <= 5; kind++ {
			want := api.OK
			if x < 0 || x > maxCost {
				want = api.ErrRange
			}
			l := plain(kind)
			l.Cost = x
			if e := lsa.Check(l); e != want {
				t.Errorf("type %d, cost %d: %v, not %v", kind, x, e, want)
			}
		}
		want := api.OK
		if x < 0 || x > maxAS {
			want = api.ErrRange
		}
		l := plain(5)
		l.Tag, l.Second, l.Forward = x, true, math.MaxUint32
		if e := lsa.Check(l); e != want {
			t.Errorf("tag %d: %v, not %v", x, e, want)
		}
	}
}

// P23.1, P23.4, P23.5: all that check agree with the definition, for advertisements with up to three changes.
func TestCheckAny(t *testing.T) {
	r := rand.New(rand.NewPCG(23, 1))
	found := map[api.Errno]int{}
	for range 20000 {
		l := anyLSA(r)
		for range r.IntN(4) {
			l = damaged(r, l)
		}
		want := checkError(l)
		found[want]++
		if e := lsa.Check(l); e != want {
			t.Fatalf("Check(%v): %v, not %v", l, e, want)
		}
		if s, e := lsa.Seal(l); e != want || e != api.OK && !equal(s, api.LSA{}) {
			t.Fatalf("Seal(%v): %v, %v, not %v", l, s, e, want)
		}
		if b, e := lsa.Encode(l); want != api.OK && (e != want || b != nil) {
			t.Fatalf("Encode(%v): %v, %v, not %v", l, b, e, want)
		}
		wantHeader := headerError(l.Header)
		if b, e := lsa.EncodeHeader(l.Header); e != wantHeader || e != api.OK && b != nil {
			t.Fatalf("EncodeHeader(%v): %v, %v, not %v", l.Header, b, e, wantHeader)
		}
	}
	for _, e := range []api.Errno{api.OK, api.ErrKind, api.ErrRange, api.ErrMismatch, api.ErrInvalid, api.ErrTooLong, api.ErrOrder} {
		if found[e] < 20 {
			t.Errorf("only %d advertisements with %v", found[e], e)
		}
	}
}
