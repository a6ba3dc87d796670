package community_test

import (
	"fmt"
	"maps"
	"math/rand/v2"
	"slices"

	"routing/api"
)

const maxElements = 255

// well are the well-known communities by their names.
func well() map[string]uint32 {
	return map[string]uint32{"graceful-shutdown": 0xffff0000, "no-export": 0xffffff01, "no-advertise": 0xffffff02, "no-export-confed": 0xffffff03}
}

// printed is the text of a community.
func printed(c uint32) string {
	for name, known := range well() {
		if c == known {
			return name
		}
	}
	return fmt.Sprintf("%d:%d", c/65536, c%65536)
}

// elements returns the elements of lists as a set.
func elements(lists ...[]uint32) map[uint32]bool {
	set := map[uint32]bool{}
	for _, l := range lists {
		for _, c := range l {
			set[c] = true
		}
	}
	return set
}

// ascending returns the elements of a set in ascending order.
func ascending(set map[uint32]bool) []uint32 { return slices.Sorted(maps.Keys(set)) }

// added, dropped and joined are the promises of Add, Drop and Join.
func added(l []uint32, c uint32) []uint32 {
	set := elements(l)
	if set[c] || len(set) < maxElements {
		set[c] = true
	}
	return ascending(set)
}

func dropped(l []uint32, c uint32) []uint32 {
	set := elements(l)
	delete(set, c)
	return ascending(set)
}

func joined(a, b []uint32) []uint32 {
	l := ascending(elements(a, b))
	for len(l) > maxElements {
		l = l[:len(l)-1]
	}
	return l
}

// checked is the promise of Check.
func checked(l []uint32) api.Errno {
	switch {
	case len(l) > maxElements:
		return api.ErrTooLong
	case !slices.Equal(l, ascending(elements(l))):
		return api.ErrOrder
	}
	return api.OK
}

// applies is the definition of a rule that applies to a list.
func applies(r api.CommunityRule, l []uint32) bool {
	for _, c := range l {
		high, low := int(c)/65536, int(c)%65536
		if (r.High == -1 || r.High == high) && (r.Low == -1 || r.Low == low) {
			return true
		}
	}
	return false
}

// permitted is the promise of Permits.
func permitted(rules []api.CommunityRule, l []uint32) bool {
	for _, r := range rules {
		if applies(r, l) {
			return r.Permit
		}
	}
	return false
}

// count returns n communities from first on, with a distance.
func count(first uint32, n int, distance uint32) []uint32 {
	var l []uint32
	for i := range n {
		l = append(l, first+uint32(i)*distance)
	}
	return l
}

// anyCommunity returns a community, often one of few.
func anyCommunity(r *rand.Rand) uint32 {
	switch r.IntN(5) {
	case 0:
		return r.Uint32()
	case 1:
		return 0xffffff00 + uint32(r.IntN(256))
	case 2:
		return 0xffff0000 + uint32(r.IntN(3))
	}
	return uint32(r.IntN(3))<<16 + uint32(r.IntN(4))
}

// anyList returns a list of any form, mostly a short one.
func anyList(r *rand.Rand) []uint32 {
	n := r.IntN(6)
	if r.IntN(5) == 0 {
		n = r.IntN(600)
	}
	var l []uint32
	for range n {
		c := anyCommunity(r)
		if n > 100 && r.IntN(2) == 0 {
			c = uint32(r.IntN(400))
		}
		l = append(l, c)
	}
	return l
}
