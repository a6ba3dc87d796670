package lsa_test

import (
	"bytes"
	"math/rand/v2"
	"slices"
	"testing"

	"routing/api"
	"routing/lsa"
)

func all[T any](l []T) []T { return slices.Clone(l[:cap(l)]) }

// roomy returns a list like l with spare elements behind its end.
func roomy[T any](l []T, spare T) []T { return append(slices.Clone(l), spare, spare)[:len(l)] }

func fill[T any](l []T, x T) {
	for i := range l[:cap(l)] {
		l[:cap(l)][i] = x
	}
}

// R5: no function changes its arguments or what lies behind their ends.
func TestArgumentsUnchanged(t *testing.T) {
	r := rand.New(rand.NewPCG(23, 15))
	for i := range 2000 {
		l := sealed(anyLSA(r))
		if i%2 == 0 {
			l = damaged(r, l)
		}
		l.Links, l.Attached = roomy(l.Links, api.LSLink{Kind: 77}), roomy(l.Attached, 77)
		b := roomy(wire(l), 77)
		links, attached, bytesBefore := all(l.Links), all(l.Attached), all(b)
		lsa.Check(l)
		lsa.Seal(l)
		lsa.Encode(l)
		lsa.Prefix(l)
		lsa.SameBody(l, l)
		lsa.Decode(b)
		lsa.DecodeHeader(b)
		if !slices.Equal(all(l.Links), links) || !slices.Equal(all(l.Attached), attached) || !bytes.Equal(all(b), bytesBefore) {
			t.Fatal("changed", l)
		}
	}
}

// R5: results share no memory with arguments or with each other.
func TestResultsAreNew(t *testing.T) {
	r := rand.New(rand.NewPCG(23, 16))
	for range 1000 {
		l := sealed(anyLSA(r))
		given := l
		given.Links, given.Attached = slices.Clone(l.Links), slices.Clone(l.Attached)
		s, _ := lsa.Seal(given)
		b, _ := lsa.Encode(given)
		d, _, _ := lsa.Decode(b)
		encoded := slices.Clone(b)
		fill(given.Links, api.LSLink{Kind: 77})
		fill(given.Attached, 77)
		fill(b, 77)
		if !equal(s, l) || !equal(d, l) || !bytes.Equal(encoded, wire(l)) {
			t.Fatal("shared", l)
		}
		fill(d.Links, api.LSLink{Kind: 78})
		fill(d.Attached, 78)
		if !equal(s, l) {
			t.Fatal("shared", l)
		}
	}
}

// R6: repeated calls have the same results.
func TestRepeated(t *testing.T) {
	r := rand.New(rand.NewPCG(23, 17))
	for range 200 {
		l := anyLSA(r)
		a, _ := lsa.Seal(l)
		b, _ := lsa.Seal(a)
		if !equal(a, b) {
			t.Fatal("sealed again", a, b)
		}
	}
}
