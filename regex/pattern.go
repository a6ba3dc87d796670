package regex

import (
	"strings"

	"routing/api"
	"routing/field"
)

// Print returns the pattern of r.
func Print(r api.Regex) (string, api.Errno) {
	if err := Check(r); err != api.OK {
		return "", err
	}
	return pattern(r), api.OK
}

// Parse parses a pattern.
func Parse(s string) (r api.Regex, err api.Errno) {
	defer func() {
		if recover() != nil {
			r, err = api.Regex{}, api.ErrSyntax
		}
	}()
	p := parser{text: s}
	r = p.alternatives()
	// The parser accepts more than patterns, such as superfluous parentheses, but of each pattern it returns the
	// expression.
	if printed, e := Print(r); e != api.OK || printed != s {
		fail()
	}
	return r, api.OK
}

// pattern returns the pattern of a valid expression.
func pattern(r api.Regex) string {
	switch r.Kind {
	case api.ReEmpty:
		return "()"
	case api.ReRange:
		if r.Lo == r.Hi {
			return field.Decimal(r.Lo)
		}
		return "[" + field.Decimal(r.Lo) + "-" + field.Decimal(r.Hi) + "]"
	case api.ReAny:
		return "."
	case api.ReAlt:
		if len(r.Kids) == 0 {
			return "!"
		}
	}
	var kids []string
	for _, kid := range r.Kids {
		kids = append(kids, enclosed(kid, r.Kind))
	}
	switch r.Kind {
	case api.ReSeq:
		return strings.Join(kids, " ")
	case api.ReAlt:
		return strings.Join(kids, "|")
	}
	return kids[0] + sign(r.Kind)
}

// enclosed returns the pattern of a kid, in parentheses if its parent's kind requires them.
func enclosed(kid api.Regex, parent int) string {
	parentheses := false
	switch kid.Kind {
	case api.ReSeq:
		parentheses = parent != api.ReAlt
	case api.ReAlt:
		parentheses = len(kid.Kids) > 0
	case api.ReStar, api.RePlus, api.ReOpt:
		parentheses = isRepetition(parent)
	}
	if parentheses {
		return "(" + pattern(kid) + ")"
	}
	return pattern(kid)
}

// isRepetition reports whether a kind has one kid, the pattern of which is followed by a sign.
func isRepetition(kind int) bool { return sign(kind) != "" }

// sign returns what follows the pattern of the kid of a repetition.
func sign(kind int) string {
	switch kind {
	case api.ReStar:
		return "*"
	case api.RePlus:
		return "+"
	case api.ReOpt:
		return "?"
	}
	return ""
}

// parser reads a text from a position on; its methods panic if they cannot.
type parser struct {
	text  string
	at    int
	parts int // simple patterns that were begun
}

func fail() { panic(api.ErrSyntax) }

// alternatives reads sequences separated by vertical bars.
func (p *parser) alternatives() api.Regex {
	return joined(api.ReAlt, p.separated('|', p.sequence))
}

// sequence reads repetitions separated by spaces.
func (p *parser) sequence() api.Regex {
	return joined(api.ReSeq, p.separated(' ', p.repetition))
}

// separated reads as many parts as there are separators between them.
func (p *parser) separated(separator byte, read func() api.Regex) []api.Regex {
	parts := []api.Regex{read()}
	for p.skip(separator) {
		parts = append(parts, read())
	}
	return parts
}

// joined returns a node with these Kids, or the only one of them.
func joined(kind int, kids []api.Regex) api.Regex {
	if len(kids) == 1 {
		return kids[0]
	}
	return api.Regex{Kind: kind, Kids: kids}
}

// repetition reads a simple pattern and at most one sign after it.
func (p *parser) repetition() api.Regex {
	kid := p.simple()
	for kind := api.ReStar; kind <= api.ReOpt; kind++ {
		if p.skip(sign(kind)[0]) {
			return api.Regex{Kind: kind, Kids: []api.Regex{kid}}
		}
	}
	return kid
}

// simple reads a pattern that is a number or that a sign of its own encloses.
func (p *parser) simple() api.Regex {
	// Each of them is a node; without a limit, a long text that is no pattern could be nested too deeply to be read.
	if p.parts++; p.parts > api.MaxList {
		fail()
	}
	switch {
	case p.skip('.'):
		return api.Regex{Kind: api.ReAny}
	case p.skip('!'):
		return api.Regex{Kind: api.ReAlt}
	case p.skip('['):
		low := p.number()
		p.expect('-')
		high := p.number()
		p.expect(']')
		return api.Regex{Kind: api.ReRange, Lo: low, Hi: high}
	case p.skip('('):
		if p.skip(')') {
			return api.Regex{Kind: api.ReEmpty}
		}
		r := p.alternatives()
		p.expect(')')
		return r
	}
	n := p.number()
	return api.Regex{Kind: api.ReRange, Lo: n, Hi: n}
}

// number reads an AS number.
func (p *parser) number() int {
	end := p.at
	for end < len(p.text) && p.text[end] >= '0' && p.text[end] <= '9' {
		end++
	}
	n, err := field.Number(p.text[p.at:end], api.MaxAS)
	if err != api.OK {
		fail()
	}
	p.at = end
	return n
}

// skip reads c if it comes next, and reports whether it does.
func (p *parser) skip(c byte) bool {
	if p.at == len(p.text) || p.text[p.at] != c {
		return false
	}
	p.at++
	return true
}

// expect reads c.
func (p *parser) expect(c byte) {
	if !p.skip(c) {
		fail()
	}
}
