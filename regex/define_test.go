package regex_test

import (
	"math/rand/v2"
	"slices"
	"strings"

	"routing/api"
	"routing/field"
)

// node returns an expression of a kind that has no Lo and Hi.
func node(kind int, kids ...api.Regex) api.Regex { return api.Regex{Kind: kind, Kids: kids} }

func span(lo, hi int) api.Regex { return api.Regex{Kind: api.ReRange, Lo: lo, Hi: hi} }

func number(n int) api.Regex { return span(n, n) }

// copied returns an expression that shares no memory with r.
func copied(r api.Regex) api.Regex {
	kids := slices.Clone(r.Kids)
	for i, kid := range kids {
		kids[i] = copied(kid)
	}
	r.Kids = kids
	return r
}

// roomy returns an expression like r, whose lists have spare elements behind their ends.
func roomy(r api.Regex) api.Regex {
	var kids []api.Regex
	for _, kid := range r.Kids {
		kids = append(kids, roomy(kid))
	}
	kids = append(kids, number(77), number(78))
	r.Kids = kids[:len(r.Kids)]
	return r
}

// whole returns an expression like r with what lies behind the ends of its lists.
func whole(r api.Regex) api.Regex {
	r.Kids = slices.Clone(r.Kids[:cap(r.Kids)])
	for i, kid := range r.Kids {
		r.Kids[i] = whole(kid)
	}
	return r
}

// nodes returns the number of nodes of an expression, and depth its depth.
func nodes(r api.Regex) int {
	n := 1
	for _, kid := range r.Kids {
		n += nodes(kid)
	}
	return n
}

func depth(r api.Regex) int {
	d := 0
	for _, kid := range r.Kids {
		d = max(d, depth(kid))
	}
	return d + 1
}

// equal is the promise of Same.
func equal(a, b api.Regex) bool {
	return a.Kind == b.Kind && a.Lo == b.Lo && a.Hi == b.Hi && slices.EqualFunc(a.Kids, b.Kids, equal)
}

// wellFormed is the definition of a well-formed expression.
func wellFormed(r api.Regex) bool {
	least := map[int]int{api.ReEmpty: 0, api.ReRange: 0, api.ReAny: 0, api.ReSeq: 2, api.ReAlt: 2, api.ReStar: 1, api.RePlus: 1, api.ReOpt: 1}
	number, exists := least[r.Kind]
	if !exists || slices.ContainsFunc(r.Kids, func(kid api.Regex) bool { return !wellFormed(kid) }) {
		return false
	}
	if r.Kind == api.ReRange {
		if r.Lo < 0 || r.Hi < r.Lo || r.Hi > 4294967295 {
			return false
		}
	} else if r.Lo != 0 || r.Hi != 0 {
		return false
	}
	if r.Kind == api.ReAlt && len(r.Kids) == 0 {
		return true
	}
	return len(r.Kids) == number || number == 2 && len(r.Kids) > 2
}

// ends returns for each part of a path whether a well-formed expression matches what lies between one of the places
// start and its end. It follows the table of the definitions.
func ends(r api.Regex, path []int, start []bool) []bool {
	found := make([]bool, len(path)+1)
	union := func(l []bool) bool {
		more := false
		for i, end := range l {
			more = more || end && !found[i]
			found[i] = found[i] || end
		}
		return more
	}
	switch r.Kind {
	case api.ReEmpty:
		union(start)
	case api.ReRange, api.ReAny:
		for i, as := range path {
			exists := as >= 0 && as <= 4294967295
			found[i+1] = start[i] && exists && (r.Kind == api.ReAny || r.Lo <= as && as <= r.Hi)
		}
	case api.ReSeq:
		for _, kid := range r.Kids {
			start = ends(kid, path, start)
		}
		union(start)
	case api.ReAlt:
		for _, kid := range r.Kids {
			union(ends(kid, path, start))
		}
	case api.ReStar, api.ReOpt:
		union(start)
		for union(ends(r.Kids[0], path, found)) && r.Kind == api.ReStar {
		}
	case api.RePlus:
		union(ends(r.Kids[0], path, start))
		for union(ends(r.Kids[0], path, found)) {
		}
	}
	return found
}

// matches is the promise of Match.
func matches(r api.Regex, path []int) bool {
	if !wellFormed(r) {
		return false
	}
	start := make([]bool, len(path)+1)
	start[0] = true
	return ends(r, path, start)[len(path)]
}

// numbers are those of the paths and ranges of the tests.
var numbers = []int{0, 1, 2, 3, 4294967295}

// anyRegex returns a well-formed expression with so many nodes, up to two more, and at most so many levels.
func anyRegex(r *rand.Rand, size, levels int) api.Regex {
	if size <= 1 || levels <= 1 {
		switch r.IntN(8) {
		case 0:
			return node([]int{api.ReEmpty, api.ReAlt}[r.IntN(2)])
		case 1, 2:
			return node(api.ReAny)
		case 3, 4:
			lo, hi := numbers[r.IntN(5)], numbers[r.IntN(5)]
			return span(min(lo, hi), max(lo, hi))
		}
		return number(numbers[r.IntN(5)])
	}
	kind := []int{api.ReSeq, api.ReSeq, api.ReAlt, api.ReStar, api.RePlus, api.ReOpt}[r.IntN(6)]
	if kind != api.ReSeq && kind != api.ReAlt {
		return node(kind, anyRegex(r, size-1, levels-1))
	}
	count := min(2+r.IntN(3), max(size-1, 2))
	var kids []api.Regex
	for left := count; left > 0; left-- {
		share := max((size-1)/count, 1)
		if left > 1 && share > 1 {
			share = 1 + r.IntN(2*share)
		}
		kids = append(kids, anyRegex(r, share, levels-1))
	}
	return node(kind, kids...)
}

// validRegex returns an expression with at most 64 nodes and 16 levels.
func validRegex(r *rand.Rand) api.Regex {
	for {
		size := 1 + r.IntN(12)
		if r.IntN(3) == 0 {
			size = 1 + r.IntN(60)
		}
		if x := anyRegex(r, size, 1+r.IntN(16)); nodes(x) <= 64 && depth(x) <= 16 {
			return x
		}
	}
}

// anyPath returns a path, sometimes with an integer that is no AS number.
func anyPath(r *rand.Rand, length int) []int {
	var path []int
	for range length {
		path = append(path, numbers[r.IntN(5)])
	}
	if length > 0 && r.IntN(20) == 0 {
		path[r.IntN(length)] = []int{-1, 1 << 32, -1 << 63, 1<<63 - 1}[r.IntN(4)]
	}
	return path
}

// paths returns all paths of at most that length.
func paths(length int) [][]int {
	l, longest := [][]int{nil}, [][]int{nil}
	for range length {
		var longer [][]int
		for _, path := range longest {
			for _, as := range numbers {
				longer = append(longer, append(slices.Clone(path), as))
			}
		}
		l, longest = append(l, longer...), longer
	}
	return l
}

// printed is the definition of the pattern of a well-formed expression.
func printed(r api.Regex) string {
	parentheses := func(kid api.Regex) bool {
		several := kid.Kind == api.ReSeq || kid.Kind == api.ReAlt && len(kid.Kids) > 0
		return several && r.Kind != api.ReAlt || kid.Kind == api.ReAlt && len(kid.Kids) > 0 && r.Kind == api.ReAlt ||
			kid.Kind >= api.ReStar && r.Kind >= api.ReStar
	}
	var kids []string
	for _, kid := range r.Kids {
		s := printed(kid)
		if parentheses(kid) {
			s = "(" + s + ")"
		}
		kids = append(kids, s)
	}
	switch {
	case r.Kind == api.ReEmpty:
		return "()"
	case r.Kind == api.ReAny:
		return "."
	case r.Kind == api.ReRange && r.Lo == r.Hi:
		return field.Decimal(r.Lo)
	case r.Kind == api.ReRange:
		return "[" + field.Decimal(r.Lo) + "-" + field.Decimal(r.Hi) + "]"
	case r.Kind == api.ReAlt && len(kids) == 0:
		return "!"
	case r.Kind == api.ReSeq:
		return strings.Join(kids, " ")
	case r.Kind == api.ReAlt:
		return strings.Join(kids, "|")
	}
	return kids[0] + map[int]string{api.ReStar: "*", api.RePlus: "+", api.ReOpt: "?"}[r.Kind]
}
