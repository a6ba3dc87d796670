package aspath

import (
	"strings"

	"routing/api"
	"routing/field"
)

// Text returns the text form.
func Text(p []api.Segment) (string, api.Errno) {
	if err := Check(p); err != api.OK {
		return "", err
	}
	var parts []string
	for len(p) > 0 {
		together, rest := p[:1], p[1:]
		// Adjacent sequences of a confederation share their parentheses; other segments are words of their own.
		if isOf(p[0], api.SegConfSeq) {
			together, rest = divide(p, api.SegConfSeq)
		}
		parts = append(parts, text(p[0].Kind, Flat(together)))
		p = rest
	}
	return strings.Join(parts, " "), api.OK
}

// Parse parses the text form.
func Parse(s string) ([]api.Segment, api.Errno) {
	words, err := field.Words(s)
	if err != api.OK {
		return nil, api.ErrSyntax
	}
	var r reader
	for _, word := range words {
		if !r.read(word) {
			return nil, api.ErrSyntax
		}
	}
	// The reader accepts more than texts of paths, such as sets that are not ascending, but of each such text it
	// reads the path.
	if printed, err := Text(r.path); err != api.OK || printed != s {
		return nil, api.ErrSyntax
	}
	return r.path, api.OK
}

// text returns the text of numbers that belong together.
func text(kind int, numbers []int) string {
	var words []string
	for _, as := range numbers {
		words = append(words, field.Decimal(as))
	}
	switch kind {
	case api.SegSet:
		return "{" + strings.Join(words, ",") + "}"
	case api.SegConfSet:
		return "[" + strings.Join(words, ",") + "]"
	case api.SegConfSeq:
		return "(" + strings.Join(words, " ") + ")"
	}
	return strings.Join(words, " ")
}

// reader reads the words of a text one after the other.
type reader struct {
	path     []api.Segment
	enclosed bool // between ( and )
}

// read reads a word that is not empty, and reports whether it can.
func (r *reader) read(word string) bool {
	switch word[0] {
	case '{':
		return r.set(api.SegSet, word, "}")
	case '[':
		return r.set(api.SegConfSet, word, "]")
	}
	return r.number(word)
}

// set reads a set of a kind that ends with a sign.
func (r *reader) set(kind int, word, end string) bool {
	inner, closed := strings.CutSuffix(word[1:], end)
	s := api.Segment{Kind: kind}
	for number := range strings.SplitSeq(inner, ",") {
		as, err := field.Number(number, api.MaxAS)
		if err != api.OK {
			return false
		}
		s.AS = append(s.AS, as)
	}
	r.path = append(r.path, s)
	return closed
}

// number reads a number of a sequence and the parentheses at it.
func (r *reader) number(word string) bool {
	word, opens := strings.CutPrefix(word, "(")
	word, closes := strings.CutSuffix(word, ")")
	as, err := field.Number(word, api.MaxAS)
	if err != api.OK {
		return false
	}
	kind := api.SegSeq
	if r.enclosed || opens {
		kind = api.SegConfSeq
	}
	r.extend(kind, as)
	r.enclosed = kind == api.SegConfSeq && !closes
	return true
}

// extend puts a number of a sequence behind the path.
func (r *reader) extend(kind, as int) {
	last := len(r.path) - 1
	if last < 0 || !isOf(r.path[last], kind) || len(r.path[last].AS) == api.MaxPath {
		r.path = append(r.path, api.Segment{Kind: kind})
		last++
	}
	r.path[last].AS = append(r.path[last].AS, as)
}
