package prefix

import (
	"strconv"
	"strings"

	"routing/api"
)

// Addr returns the four bytes of a as decimal numbers separated by periods.
func Addr(a api.Addr) string {
	text := ""
	for i := range 4 {
		if i > 0 {
			text += "."
		}
		text += strconv.Itoa(int(a >> (24 - 8*i) & 255))
	}
	return text
}

// ParseAddr returns the address with the text s.
func ParseAddr(s string) (api.Addr, api.Errno) {
	var numbers [4]int
	if strings.Count(s, ".") != len(numbers)-1 {
		return 0, api.ErrSyntax
	}
	rest := s
	for i := range numbers {
		word, after, _ := strings.Cut(rest, ".")
		n, ok := parseNumber(word, 255)
		if !ok {
			return 0, api.ErrSyntax
		}
		numbers[i], rest = n, after
	}
	a := api.Addr(0)
	for _, n := range numbers {
		a = a<<8 | api.Addr(n)
	}
	return a, api.OK
}

// Text returns the text of the address, a slash and the length, and "" if p is not valid.
func Text(p api.Prefix) string {
	if !Valid(p) {
		return ""
	}
	return Addr(p.Addr) + "/" + strconv.Itoa(p.Len)
}

// Parse returns the valid prefix with the text s.
func Parse(s string) (api.Prefix, api.Errno) {
	before, after, found := strings.Cut(s, "/")
	if !found {
		return api.Prefix{}, api.ErrSyntax
	}
	a, e := ParseAddr(before)
	if e != api.OK {
		return api.Prefix{}, e
	}
	n, ok := parseNumber(after, 32)
	if !ok {
		return api.Prefix{}, api.ErrSyntax
	}
	p := api.Prefix{Addr: a, Len: n}
	if !Valid(p) {
		return api.Prefix{}, api.ErrInvalid
	}
	return p, api.OK
}

// parseNumber returns the number from 0 to limit, at most 255, with the decimal text s.
func parseNumber(s string, limit int) (int, bool) {
	// No such number has more digits, and more of them could overflow.
	if len(s) < 1 || len(s) > 3 || len(s) > 1 && s[0] == '0' {
		return 0, false
	}
	n := 0
	for i := range len(s) {
		if s[i] < '0' || s[i] > '9' {
			return 0, false
		}
		n = 10*n + int(s[i]-'0')
	}
	if n > limit {
		return 0, false
	}
	return n, true
}
