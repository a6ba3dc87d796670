package regex

import (
	"slices"

	"routing/api"
)

// term is an expression whose parts are terms, given by their numbers: both parts of a sequence or an alternative, the
// left one of a repetition. The left part of a sequence is no sequence, so that a sequence is a list of other terms.
type term struct {
	kind        int
	low, high   int // of a range; for ReAny that of all AS numbers
	left, right int
}

// Numbers of terms that are in every list of terms.
const (
	nothing = 0 // matches the empty path
	never   = 1 // matches no path
)

// state is a term with what is known of it.
type state struct {
	term
	known   bool
	choices []int // see terms.choices
	round   int   // the last one in which the term was reached
}

// terms contains each term once, so that equal terms have equal numbers. The terms to which numbers lead from an
// expression are few, because each node of the expression is followed by only one list of other ones.
type terms struct {
	states  []state
	numbers map[term]int
	round   int
}

func newTerms() *terms {
	t := &terms{numbers: map[term]int{}}
	t.number(term{kind: api.ReEmpty})
	t.number(term{kind: api.ReAlt, left: never, right: never})
	return t
}

// number returns the number of a term.
func (t *terms) number(x term) int {
	n, ok := t.numbers[x]
	if !ok {
		n = len(t.states)
		t.numbers[x] = n
		t.states = append(t.states, state{term: x})
	}
	return n
}

// before returns the term for a well-formed expression that is followed by the term rest.
func (t *terms) before(r api.Regex, rest int) int {
	switch r.Kind {
	case api.ReEmpty:
		return rest
	case api.ReSeq:
		for i := len(r.Kids) - 1; i >= 0; i-- {
			rest = t.before(r.Kids[i], rest)
		}
		return rest
	case api.ReRange:
		return t.join(t.number(term{kind: r.Kind, low: r.Lo, high: r.Hi}), rest)
	case api.ReAny:
		return t.join(t.number(term{kind: r.Kind, high: api.MaxAS}), rest)
	case api.ReAlt:
		return t.join(t.alternatives(r.Kids), rest)
	}
	return t.join(t.repetition(r.Kind, t.before(r.Kids[0], nothing)), rest)
}

// alternatives returns the term for well-formed alternatives, of which there is not only one.
func (t *terms) alternatives(kids []api.Regex) int {
	if len(kids) == 0 {
		return never
	}
	n := t.before(kids[len(kids)-1], nothing)
	for i := len(kids) - 2; i >= 0; i-- {
		n = t.number(term{kind: api.ReAlt, left: t.before(kids[i], nothing), right: n})
	}
	return n
}

// repetition returns a term for a repetition of a kind. A repetition of another one is a single repetition, or deeply
// nested ones would be followed by very long terms.
func (t *terms) repetition(kind, kid int) int {
	if inner := t.states[kid]; isRepetition(inner.kind) {
		if inner.kind != kind {
			kind = api.ReStar
		}
		kid = inner.left
	}
	return t.number(term{kind: kind, left: kid})
}

// join returns the term for the paths of one term followed by those of another one.
func (t *terms) join(n, rest int) int {
	if rest == nothing {
		return n
	}
	var firsts []int
	for t.states[n].kind == api.ReSeq {
		firsts = append(firsts, t.states[n].left)
		n = t.states[n].right
	}
	if n != nothing {
		firsts = append(firsts, n)
	}
	for i := len(firsts) - 1; i >= 0; i-- {
		rest = t.number(term{kind: api.ReSeq, left: firsts[i], right: rest})
	}
	return rest
}

// parts divides a term into one that is no sequence and what follows it.
func (t *terms) parts(n int) (int, int) {
	if s := t.states[n]; s.kind == api.ReSeq {
		return s.left, s.right
	}
	return n, nothing
}

// choices returns the terms that together match what a term matches; none if it is empty or begins with numbers.
func (t *terms) choices(n int) []int {
	if !t.states[n].known {
		choices := t.choose(n)
		t.states[n].known, t.states[n].choices = true, choices
	}
	return t.states[n].choices
}

// choose is choices of a term for which they are not known.
func (t *terms) choose(n int) []int {
	first, rest := t.parts(n)
	left, right := t.states[first].left, t.states[first].right
	switch t.states[first].kind {
	case api.ReAlt:
		if first != never {
			return []int{t.join(left, rest), t.join(right, rest)}
		}
	case api.ReStar:
		return []int{t.join(left, n), rest}
	case api.RePlus:
		return []int{t.join(left, t.join(t.repetition(api.ReStar, left), rest))}
	case api.ReOpt:
		return []int{t.join(left, rest), rest}
	}
	return nil
}

// open returns the given terms and all to which choices lead from them, each once.
func (t *terms) open(list []int) []int {
	t.round++
	var opened []int
	for todo := slices.Clone(list); len(todo) > 0; {
		n := todo[len(todo)-1]
		todo = todo[:len(todo)-1]
		if t.states[n].round < t.round {
			t.states[n].round = t.round
			opened = append(opened, n)
			todo = append(todo, t.choices(n)...)
		}
	}
	return opened
}

// read returns terms for the rests of the paths that begin with as and that one of the given terms matches.
func (t *terms) read(list []int, as int) []int {
	var rests []int
	for _, n := range t.open(list) {
		first, rest := t.parts(n)
		s := t.states[first]
		if (s.kind == api.ReRange || s.kind == api.ReAny) && s.low <= as && as <= s.high {
			rests = append(rests, rest)
		}
	}
	return rests
}
