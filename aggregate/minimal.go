package aggregate

import (
	"maps"
	"slices"

	"routing/api"
	"routing/prefix"
)

// region is a prefix whose lookups are to be kept. Its entries are fewest if the entry above it has one of the best
// values; with any other value above it, it needs one more, and that one may have any of the best values.
type region struct {
	prefix api.Prefix
	best   map[int]bool
	halves []*region // none if the table has no longer prefixes in the region
}

// Minimal returns a table with the fewest entries that returns the same value for every address.
func Minimal(l []api.Entry) ([]api.Entry, api.Errno) {
	if e := Check(l); e != api.OK {
		return nil, e
	}
	return newRegion(api.Prefix{}, l, noRoute).entries(nil, noRoute), api.OK
}

// newRegion returns the region of p in a table, of which under are the entries that p covers, ascending, and above is
// the value of the entry above p.
func newRegion(p api.Prefix, under []api.Entry, above int) *region {
	if len(under) > 0 && under[0].Prefix == p {
		above, under = under[0].Value, under[1:]
	}
	if len(under) == 0 {
		return &region{prefix: p, best: map[int]bool{above: true}}
	}
	low, high, _ := prefix.Halves(p)
	middle, _ := slices.BinarySearchFunc(under, high, func(entry api.Entry, q api.Prefix) int {
		return prefix.Compare(entry.Prefix, q)
	})
	lower, upper := newRegion(low, under[:middle], above), newRegion(high, under[middle:], above)
	return &region{prefix: p, best: shared(lower.best, upper.best), halves: []*region{lower, upper}}
}

// shared returns the values that are in both sets, or those in either one if there are none.
func shared(a, b map[int]bool) map[int]bool {
	both := map[int]bool{}
	for value := range a {
		if b[value] {
			both[value] = true
		}
	}
	if len(both) > 0 {
		return both
	}
	either := maps.Clone(a)
	maps.Copy(either, b)
	return either
}

// entries appends the entries that keep the lookups in r, if the entry above it has the value above.
func (r *region) entries(l []api.Entry, above int) []api.Entry {
	if !r.best[above] {
		// Any best value would do; the least one makes the result the same every time.
		above = slices.Min(slices.Collect(maps.Keys(r.best)))
		l = append(l, api.Entry{Prefix: r.prefix, Value: above})
	}
	for _, half := range r.halves {
		l = half.entries(l, above)
	}
	return l
}
