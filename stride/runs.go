package stride

import (
	"cmp"
	"slices"

	"routing/api"
	"routing/prefix"
	"routing/trie"
)

// run is the greatest possible run of addresses with one lookup; it ends where the next one begins.
type run struct {
	first api.Addr
	value int
}

// runs returns the runs of all addresses in a table, ascending. Equivalent tables have the same runs.
func runs(l []api.Entry) []run {
	t, _ := trie.Of(l...)
	bounds := []api.Addr{0}
	for _, entry := range l {
		// Behind the greatest address comes 0, which is there already.
		bounds = append(bounds, entry.Prefix.Addr, prefix.Last(entry.Prefix)+1)
	}
	slices.Sort(bounds)
	result := make([]run, 0, len(bounds))
	for _, a := range bounds {
		value := noRoute
		if entry, ok := t.Lookup(a); ok {
			value = entry.Value
		}
		result = append(result, run{a, value})
	}
	return slices.CompactFunc(result, func(r, s run) bool { return r.value == s.value })
}

// lookup returns the lookup of the first address of p in the table with the runs, and whether all others of p agree.
func lookup(table []run, p api.Prefix) (int, bool) {
	i, found := slices.BinarySearchFunc(table, p.Addr, func(r run, a api.Addr) int {
		return cmp.Compare(r.first, a)
	})
	if !found {
		i--
	}
	return table[i].value, i+1 == len(table) || table[i+1].first > prefix.Last(p)
}
