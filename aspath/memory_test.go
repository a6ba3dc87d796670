package aspath_test

import (
	"math/rand/v2"
	"slices"
	"testing"

	"routing/api"
	"routing/aspath"
)

// roomy returns a path like p, whose lists have spare elements behind their ends.
func roomy(p []api.Segment) []api.Segment {
	var l []api.Segment
	for _, s := range p {
		numbers := append(append([]int(nil), s.AS...), 777, 778, 779)
		l = append(l, api.Segment{Kind: s.Kind, AS: numbers[:len(s.AS)]})
	}
	l = append(l, seq(771), seq(772))
	return l[:len(p)]
}

// whole returns a path like p with what lies behind the ends of its lists.
func whole(p []api.Segment) []api.Segment {
	l := slices.Clone(p[:cap(p)])
	for i, s := range l {
		l[i].AS = slices.Clone(s.AS[:cap(s.AS)])
	}
	return l
}

// overwrite changes all memory that a path reaches, and reports whether no two of its lists share any.
func overwrite(p []api.Segment) bool {
	p = p[:cap(p)]
	for i, s := range p {
		for j := range s.AS[:cap(s.AS)] {
			s.AS[:cap(s.AS)][j] = -1000 - i
		}
	}
	alone := true
	for i, s := range p {
		for _, as := range s.AS[:cap(s.AS)] {
			alone = alone && as == -1000-i
		}
		p[i] = api.Segment{Kind: -7}
	}
	return alone
}

// agreeMemory fails if a function changes its arguments, keeps them, or shares memory with its result or within it.
func agreeMemory(t *testing.T, name string, a, b []api.Segment, call func(a, b []api.Segment) []api.Segment) {
	t.Helper()
	a, b = roomy(a), roomy(b)
	beforeA, beforeB := whole(a), whole(b)
	unchanged := func() bool { return equal(whole(a), beforeA) && equal(whole(b), beforeB) }
	result := call(a, b)
	want := copied(result)
	if !unchanged() {
		t.Fatalf("%s changes its argument: %v, %v", name, a, b)
	}
	if !overwrite(result) {
		t.Fatalf("lists of a result of %s share memory: %v", name, want)
	}
	if !unchanged() {
		t.Fatalf("%s shares memory with its argument: %v, %v", name, a, b)
	}
	if again := call(a, b); !equal(again, want) {
		t.Fatalf("%s returns %v after %v", name, again, want)
	}
	p, q := copied(a), copied(b)
	result = call(p, q)
	overwrite(p)
	overwrite(q)
	if !equal(result, want) {
		t.Fatalf("%s returns what its argument is changed to: %v", name, want)
	}
}

// R5 for all functions with lists.
func TestMemory(t *testing.T) {
	r := rand.New(rand.NewPCG(17, 5))
	functions := map[string]func(a, b []api.Segment) []api.Segment{
		"Strip": func(a, _ []api.Segment) []api.Segment { return aspath.Strip(a) },
		"Flat":  func(a, _ []api.Segment) []api.Segment { return path(seq(aspath.Flat(a)...)) },
		"Merge": func(a, b []api.Segment) []api.Segment { p, _ := aspath.Merge(a, b); return p },
		"Prepend": func(a, _ []api.Segment) []api.Segment {
			p, _ := aspath.Prepend(a, api.SegSeq, 5, 3)
			return p
		},
		"Prepend nothing": func(a, _ []api.Segment) []api.Segment {
			p, _ := aspath.Prepend(a, api.SegSeq, 5, 0)
			return p
		},
		"Prepend of a confederation": func(a, _ []api.Segment) []api.Segment {
			p, _ := aspath.Prepend(a, api.SegConfSeq, 5, 200)
			return p
		},
		"Parse": func(a, _ []api.Segment) []api.Segment {
			s, _ := aspath.Text(a)
			p, _ := aspath.Parse(s)
			return p
		},
		"the other functions": func(a, b []api.Segment) []api.Segment {
			as, _ := aspath.First(a)
			last, _ := aspath.Origin(a)
			numbers := []int{int(aspath.Check(a)), aspath.Length(a), as, last, 0, 0}
			if aspath.Has(a, 3) {
				numbers[4]++
			}
			if aspath.Same(a, b) {
				numbers[5]++
			}
			return path(seq(numbers...))
		},
	}
	for range 300 {
		a, b := anyPath(r), anyPath(r)
		switch r.IntN(4) {
		case 0:
			b = a
		case 1:
			b = append(stripped(a), set(anyNumber(r)))
		case 2:
			a = damaged(r, a)
		}
		for name, call := range functions {
			agreeMemory(t, name, a, b, call)
		}
	}
}
