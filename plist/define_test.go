package plist_test

import (
	"fmt"
	"math/rand/v2"

	"routing/api"
)

func pre(a api.Addr, n int) api.Prefix { return api.Prefix{Addr: a, Len: n} }

func rule(permit bool, p api.Prefix, low, high int) api.PrefixRule {
	return api.PrefixRule{Permit: permit, Prefix: p, Min: low, Max: high}
}

func permit(a api.Addr, n, low, high int) api.PrefixRule { return rule(true, pre(a, n), low, high) }
func deny(a api.Addr, n, low, high int) api.PrefixRule   { return rule(false, pre(a, n), low, high) }

// size returns the number of addresses of a prefix of a length from 0 to 32.
func size(n int) uint64 { return 1 << (32 - n) }

// validPrefix is the definition of a valid prefix.
func validPrefix(p api.Prefix) bool {
	return p.Len >= 0 && p.Len <= 32 && uint64(p.Addr)%size(p.Len) == 0
}

// covers reports whether all addresses of a valid prefix are those of another one.
func covers(p, q api.Prefix) bool {
	return uint64(q.Addr) >= uint64(p.Addr) && uint64(q.Addr)+size(q.Len) <= uint64(p.Addr)+size(p.Len)
}

// checked is the promise of Check.
func checked(r api.PrefixRule) api.Errno {
	if !validPrefix(r.Prefix) {
		return api.ErrInvalid
	}
	for _, ok := range []bool{r.Prefix.Len <= r.Min, r.Min <= r.Max, r.Max <= 32} {
		if !ok {
			return api.ErrRange
		}
	}
	return api.OK
}

// applies is the definition of a rule that applies to a prefix.
func applies(r api.PrefixRule, p api.Prefix) bool {
	return checked(r) == api.OK && validPrefix(p) && covers(r.Prefix, p) && p.Len >= r.Min && p.Len <= r.Max
}

// permitted is the promise of Permits.
func permitted(rules []api.PrefixRule, p api.Prefix) bool {
	for _, r := range rules {
		if applies(r, p) {
			return r.Permit
		}
	}
	return false
}

// trimmed is the promise of Trim.
func trimmed(rules []api.PrefixRule) []api.PrefixRule {
	var l []api.PrefixRule
	for i, r := range rules {
		if checked(r) != api.OK {
			continue
		}
		keep := true
		for _, earlier := range rules[:i] {
			if checked(earlier) == api.OK && covers(earlier.Prefix, r.Prefix) && earlier.Min <= r.Min && earlier.Max >= r.Max {
				keep = false
			}
		}
		if keep {
			l = append(l, r)
		}
	}
	return l
}

// printed is the definition of the text of a valid rule.
func printed(r api.PrefixRule) string {
	a := r.Prefix.Addr
	s := fmt.Sprintf("%s %d.%d.%d.%d/%d", map[bool]string{true: "permit", false: "deny"}[r.Permit], a>>24, a>>16&255, a>>8&255, a&255, r.Prefix.Len)
	if r.Min == r.Prefix.Len && r.Max == r.Prefix.Len {
		return s
	}
	return fmt.Sprintf("%s %d-%d", s, r.Min, r.Max)
}

// between returns the valid prefixes with lengths from low to high that are in a prefix of the length low.
func between(in api.Prefix, high int) []api.Prefix {
	var l []api.Prefix
	for n := in.Len; n <= high; n++ {
		for k := range uint64(1) << (n - in.Len) {
			l = append(l, pre(in.Addr+api.Addr(k*size(n)), n))
		}
	}
	return l
}

// rulesOf returns all valid rules for prefixes whose lengths are at most high.
func rulesOf(prefixes []api.Prefix, high int) []api.PrefixRule {
	var l []api.PrefixRule
	for _, p := range prefixes {
		for low := p.Len; low <= high; low++ {
			for to := low; to <= high; to++ {
				l = append(l, rule(true, p, low, to), rule(false, p, low, to))
			}
		}
	}
	return l
}

// anyPrefix returns a valid prefix, often one of few.
func anyPrefix(r *rand.Rand) api.Prefix {
	a, n := uint64(r.Uint32()), r.IntN(33)
	switch r.IntN(4) {
	case 0, 1:
		a, n = uint64(r.IntN(4))<<30, r.IntN(4)
	case 2:
		a, n = 0x0a000000+uint64(r.IntN(16)), 28+r.IntN(5)
	}
	return pre(api.Addr(a/size(n)*size(n)), n)
}

// anyRule returns a valid rule.
func anyRule(r *rand.Rand) api.PrefixRule {
	p := anyPrefix(r)
	low := p.Len + r.IntN(33-p.Len)
	if r.IntN(2) == 0 {
		low = p.Len
	}
	high := low + r.IntN(33-low)
	if r.IntN(3) == 0 {
		high = low
	}
	return rule(r.IntN(2) == 0, p, low, high)
}

// damaged returns a rule that is mostly not valid.
func damaged(r *rand.Rand, x api.PrefixRule) api.PrefixRule {
	switch r.IntN(5) {
	case 0:
		x.Prefix.Addr++
	case 1:
		x.Prefix.Len += r.IntN(70) - 35
	case 2:
		x.Min = x.Prefix.Len - 1 - r.IntN(3)
	case 3:
		x.Max = x.Min - 1 - r.IntN(3)
	case 4:
		x.Max = 33 + r.IntN(3)
	}
	return x
}
