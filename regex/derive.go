package regex

import (
	"slices"

	"routing/api"
)

// Match reports whether r matches the whole path.
func Match(r api.Regex, path []int) bool {
	if !wellFormed(r, 1) {
		return false
	}
	t := newTerms()
	list := []int{t.before(r, nothing)}
	for _, as := range path {
		if list = t.read(list, as); len(list) == 0 {
			return false
		}
	}
	return slices.Contains(t.open(list), nothing)
}

// Derive returns an expression for the rests of the paths that r matches and that begin with as.
func Derive(r api.Regex, as int) api.Regex {
	if !wellFormed(r, 1) {
		return api.Regex{Kind: api.ReAlt}
	}
	t := newTerms()
	rests := t.read([]int{t.before(r, nothing)}, as)
	return newEndings(t, rests).expression(nothing, nil)
}

// endings describes a list of terms by their ends, which many of them have in common.
type endings struct {
	terms  *terms
	whole  map[int]bool  // the terms of the list
	longer map[int][]int // the ends that consist of one term and a given end
}

func newEndings(t *terms, list []int) endings {
	e := endings{terms: t, whole: map[int]bool{}, longer: map[int][]int{}}
	met := map[int]bool{nothing: true}
	for _, n := range list {
		e.whole[n] = true
		for !met[n] {
			met[n] = true
			_, rest := t.parts(n)
			e.longer[rest] = append(e.longer[rest], n)
			n = rest
		}
	}
	return e
}

// expression returns an expression for what precedes an end in the terms of the list, and then for the first terms of
// the given ends, from the last one to the first one.
func (e endings) expression(end int, after []int) api.Regex {
	for !e.whole[end] && len(e.longer[end]) == 1 {
		end = e.longer[end][0]
		after = append(after, end)
	}
	var alternatives, sequence []api.Regex
	if e.whole[end] {
		alternatives = append(alternatives, api.Regex{Kind: api.ReEmpty})
	}
	for _, n := range e.longer[end] {
		alternatives = append(alternatives, e.expression(n, []int{n}))
	}
	if len(alternatives) != 1 || len(after) == 0 {
		sequence = append(sequence, joined(api.ReAlt, alternatives))
	}
	for i := len(after) - 1; i >= 0; i-- {
		first, _ := e.terms.parts(after[i])
		sequence = append(sequence, e.terms.expression(first))
	}
	return joined(api.ReSeq, sequence)
}

// expression returns the expression of a term.
func (t *terms) expression(n int) api.Regex {
	s := t.states[n]
	r := api.Regex{Kind: s.kind}
	switch s.kind {
	case api.ReRange:
		r.Lo, r.Hi = s.low, s.high
	case api.ReSeq, api.ReAlt:
		if n == never {
			break
		}
		for t.states[n].kind == s.kind && n != never {
			r.Kids = append(r.Kids, t.expression(t.states[n].left))
			n = t.states[n].right
		}
		r.Kids = append(r.Kids, t.expression(n))
	case api.ReStar, api.RePlus, api.ReOpt:
		r.Kids = []api.Regex{t.expression(s.left)}
	}
	return r
}
