package aspath_test

import (
	"fmt"
	"maps"
	"math/rand/v2"
	"regexp"
	"slices"
	"strconv"
	"strings"

	"routing/api"
)

// The least and the greatest AS number, and the greatest numbers of segments of a path and of numbers of a segment.
const (
	leastAS     = 1
	greatestAS  = 4294967295
	maxSegments = 64
	maxNumbers  = 255
)

func seq(as ...int) api.Segment     { return api.Segment{Kind: api.SegSeq, AS: as} }
func set(as ...int) api.Segment     { return api.Segment{Kind: api.SegSet, AS: as} }
func confSeq(as ...int) api.Segment { return api.Segment{Kind: api.SegConfSeq, AS: as} }
func confSet(as ...int) api.Segment { return api.Segment{Kind: api.SegConfSet, AS: as} }

func path(segments ...api.Segment) []api.Segment { return segments }

// count returns n ascending numbers from first on.
func count(first, n int) []int {
	var l []int
	for i := range n {
		l = append(l, first+i)
	}
	return l
}

// many returns a path that contains a segment n times.
func many(s api.Segment, n int) []api.Segment { return slices.Repeat(path(s), n) }

// copied returns a path that shares no memory with p.
func copied(p []api.Segment) []api.Segment {
	var l []api.Segment
	for _, s := range p {
		l = append(l, api.Segment{Kind: s.Kind, AS: append([]int(nil), s.AS...)})
	}
	return l
}

// equal is the promise of Same.
func equal(a, b []api.Segment) bool {
	if len(a) != len(b) {
		return false
	}
	for i := range a {
		if a[i].Kind != b[i].Kind || len(a[i].AS) != len(b[i].AS) {
			return false
		}
		for j := range a[i].AS {
			if a[i].AS[j] != b[i].AS[j] {
				return false
			}
		}
	}
	return true
}

// isSet reports whether the numbers of a kind must be ascending, and isConf whether a kind is one of confederations.
func isSet(kind int) bool  { return kind == api.SegSet || kind == api.SegConfSet }
func isConf(kind int) bool { return kind == api.SegConfSeq || kind == api.SegConfSet }

// ascending returns the different numbers of a list in ascending order.
func ascending(l []int) []int {
	different := map[int]bool{}
	for _, n := range l {
		different[n] = true
	}
	return slices.Sorted(maps.Keys(different))
}

// checked is the promise of Check.
func checked(p []api.Segment) api.Errno {
	if len(p) > maxSegments {
		return api.ErrTooLong
	}
	for i, s := range p {
		if e := checkedAlone(s); e != api.OK {
			return e
		}
		for j, before := range p[:i] {
			if isConf(s.Kind) && !isConf(before.Kind) {
				return api.ErrInvalid
			}
			if j == i-1 && before.Kind == s.Kind && !isSet(s.Kind) && len(before.AS) < maxNumbers {
				return api.ErrInvalid
			}
		}
	}
	return api.OK
}

// checkedAlone is the promise of Check for the segments before which there is no other one.
func checkedAlone(s api.Segment) api.Errno {
	if !slices.Contains([]int{api.SegSet, api.SegSeq, api.SegConfSeq, api.SegConfSet}, s.Kind) {
		return api.ErrKind
	}
	if len(s.AS) == 0 {
		return api.ErrInvalid
	}
	if len(s.AS) > maxNumbers {
		return api.ErrTooLong
	}
	for _, as := range s.AS {
		if as < leastAS || as > greatestAS {
			return api.ErrRange
		}
	}
	if isSet(s.Kind) && !slices.Equal(s.AS, ascending(s.AS)) {
		return api.ErrOrder
	}
	return api.OK
}

// divided returns numbers as sequences of a kind.
func divided(kind int, numbers []int) []api.Segment {
	var p []api.Segment
	for i, as := range numbers {
		if i%maxNumbers == 0 {
			p = append(p, api.Segment{Kind: kind})
		}
		last := &p[len(p)-1]
		last.AS = append(last.AS, as)
	}
	return p
}

// flat and stripped are the promises of Flat and Strip.
func flat(p []api.Segment) []int {
	var numbers []int
	for _, s := range p {
		for _, as := range s.AS {
			numbers = append(numbers, as)
		}
	}
	return numbers
}

func stripped(p []api.Segment) []api.Segment {
	var rest []api.Segment
	for _, s := range copied(p) {
		if !isConf(s.Kind) {
			rest = append(rest, s)
		}
	}
	return rest
}

// prepended is the promise of Prepend.
func prepended(p []api.Segment, kind, as, n int) ([]api.Segment, api.Errno) {
	if e := checked(p); e != api.OK {
		return nil, e
	}
	if kind != api.SegSeq && kind != api.SegConfSeq {
		return nil, api.ErrKind
	}
	if as < leastAS || as > greatestAS || n < 0 || n > maxNumbers {
		return nil, api.ErrRange
	}
	if n != 0 && kind == api.SegSeq && len(p) > 0 && isConf(p[0].Kind) {
		return nil, api.ErrInvalid
	}
	var numbers []int
	for range n {
		numbers = append(numbers, as)
	}
	rest := copied(p)
	for len(rest) > 0 && rest[0].Kind == kind {
		numbers = append(numbers, rest[0].AS...)
		rest = rest[1:]
	}
	result := append(divided(kind, numbers), rest...)
	if len(result) > maxSegments {
		return nil, api.ErrTooLong
	}
	return result, api.OK
}

// merged is the promise of Merge.
func merged(a, b []api.Segment) ([]api.Segment, api.Errno) {
	for _, p := range [][]api.Segment{a, b} {
		if e := checked(p); e != api.OK {
			return nil, e
		}
	}
	var begins, all [2][]int
	for i, p := range [][]api.Segment{stripped(a), stripped(b)} {
		all[i] = flat(p)
		for _, s := range p {
			if s.Kind == api.SegSet {
				break
			}
			begins[i] = append(begins[i], s.AS...)
		}
	}
	n := min(len(begins[0]), len(begins[1]))
	for !slices.Equal(begins[0][:n], begins[1][:n]) {
		n--
	}
	result := divided(api.SegSeq, begins[0][:n])
	further := ascending(append(append([]int(nil), all[0][n:]...), all[1][n:]...))
	if len(further) > 0 {
		result = append(result, set(further...))
	}
	if len(further) > maxNumbers || len(result) > maxSegments {
		return nil, api.ErrTooLong
	}
	return result, api.OK
}

// printed is the text of a valid path.
func printed(p []api.Segment) string {
	var words []string
	for i, s := range p {
		for j, as := range s.AS {
			word := fmt.Sprint(as)
			first, last := j == 0, j == len(s.AS)-1
			switch {
			case isSet(s.Kind) && !first:
				words[len(words)-1] += "," + word
				continue
			case isSet(s.Kind):
				word = map[int]string{api.SegSet: "{", api.SegConfSet: "["}[s.Kind] + word
			case s.Kind == api.SegConfSeq && first && (i == 0 || p[i-1].Kind != api.SegConfSeq):
				word = "(" + word
			}
			if s.Kind == api.SegConfSeq && last && (i == len(p)-1 || p[i+1].Kind != api.SegConfSeq) {
				word += ")"
			}
			words = append(words, word)
		}
		if isSet(s.Kind) {
			words[len(words)-1] += map[int]string{api.SegSet: "}", api.SegConfSet: "]"}[s.Kind]
		}
	}
	return strings.Join(words, " ")
}

var (
	decimal = regexp.MustCompile(`[0-9]+`)
	part    = regexp.MustCompile(strings.ReplaceAll(`\A(\{N(,N)*\}|\[N(,N)*\]|\(N( N)*\)|N( N)*)`, "N", `(0|[1-9][0-9]*)`))
)

// parsed returns the valid path with a text, and whether there is one.
func parsed(s string) ([]api.Segment, bool) {
	var p []api.Segment
	for before := byte(0); s != ""; {
		found := part.FindString(s)
		if found == "" {
			return nil, false
		}
		var numbers []int
		for _, word := range decimal.FindAllString(found, -1) {
			n, err := strconv.Atoi(word)
			if err != nil {
				return nil, false
			}
			numbers = append(numbers, n)
		}
		switch {
		case found[0] == '(' && before == '(':
			return nil, false
		case found[0] == '(':
			p = append(p, divided(api.SegConfSeq, numbers)...)
		case found[0] == '[':
			p = append(p, confSet(numbers...))
		case found[0] == '{':
			p = append(p, set(numbers...))
		default:
			p = append(p, divided(api.SegSeq, numbers)...)
		}
		before, s = found[0], s[len(found):]
		// What follows a part is the end, or a space and another part.
		if s != "" && (s[0] != ' ' || len(s) == 1) {
			return nil, false
		}
		s = strings.TrimPrefix(s, " ")
	}
	return p, checked(p) == api.OK
}

// anyNumber returns an AS number, often a small one.
func anyNumber(r *rand.Rand) int {
	switch r.IntN(6) {
	case 0:
		return leastAS + r.IntN(greatestAS)
	case 1:
		return greatestAS - r.IntN(2)
	}
	return leastAS + r.IntN(5)
}

// anyNumbers returns AS numbers: mostly few, sometimes more than a segment may have.
func anyNumbers(r *rand.Rand) []int {
	n := 1 + r.IntN(4)
	if r.IntN(8) == 0 {
		n = 250 + r.IntN(300)
	}
	var l []int
	for range n {
		l = append(l, anyNumber(r))
	}
	return l
}

// anyPath returns a valid path.
func anyPath(r *rand.Rand) []api.Segment {
	var p []api.Segment
	confederation, before := r.IntN(3), 0
	for i := range confederation + r.IntN(4) {
		kinds := []int{api.SegSeq, api.SegSeq, api.SegSet}
		if i < confederation {
			kinds = []int{api.SegConfSeq, api.SegConfSet}
		}
		kind, numbers := kinds[r.IntN(len(kinds))], anyNumbers(r)
		if isSet(kind) {
			numbers = ascending(numbers)
			p = append(p, api.Segment{Kind: kind, AS: numbers[:min(len(numbers), maxNumbers)]})
		} else if kind != before {
			p = append(p, divided(kind, numbers)...)
		}
		before = kind
	}
	return p
}

// damaged returns a path with a change, which often makes it invalid.
func damaged(r *rand.Rand, p []api.Segment) []api.Segment {
	p = copied(p)
	if len(p) == 0 {
		return path(seq(0))
	}
	i := r.IntN(len(p))
	s := &p[i]
	switch r.IntN(9) {
	case 0:
		s.Kind = r.IntN(7) - 1
	case 1:
		s.AS = nil
	case 2:
		s.AS = append(s.AS, count(1, 256)...)
	case 3:
		if len(s.AS) > 0 {
			s.AS[r.IntN(len(s.AS))] = []int{0, -1, greatestAS + 1, 1}[r.IntN(4)]
		}
	case 4:
		slices.Reverse(s.AS)
	case 5:
		slices.Reverse(p)
	case 6:
		p = slices.Insert(p, i, copied(p[i:i+1])...)
	case 7:
		s.AS = s.AS[:len(s.AS)/2]
	case 8:
		p = slices.Repeat(p, 1+65/len(p))
	}
	return p
}

// smallSegments are segments of all kinds, also of ones that do not exist, valid and not.
func smallSegments() []api.Segment {
	var l []api.Segment
	for kind := -1; kind <= 5; kind++ {
		for _, numbers := range [][]int{nil, {1}, {2, 1}, {1, 2}, {3, 3}, {0}, {7, greatestAS + 1}, count(1, 254), count(1, 255), count(1, 256)} {
			l = append(l, api.Segment{Kind: kind, AS: numbers})
		}
	}
	return l
}

// smallPaths returns all valid paths of at most n of the given segments.
func smallPaths(segments []api.Segment, n int) [][]api.Segment {
	all, longest := [][]api.Segment{nil}, [][]api.Segment{nil}
	for range n {
		var longer [][]api.Segment
		for _, p := range longest {
			for _, s := range segments {
				if q := append(p[:len(p):len(p)], s); checked(q) == api.OK {
					longer = append(longer, q)
				}
			}
		}
		all, longest = append(all, longer...), longer
	}
	return all
}
