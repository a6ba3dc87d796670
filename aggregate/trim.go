package aggregate

import (
	"routing/api"
	"routing/prefix"
)

// Trim returns l without the entries that change no lookup.
func Trim(l []api.Entry) ([]api.Entry, api.Errno) {
	if e := Check(l); e != api.OK {
		return nil, e
	}
	return effective(visible(l)), api.OK
}

// visible returns the entries of a table that are not hidden.
func visible(l []api.Entry) []api.Entry {
	// The prefixes directly below an entry share no address, so the addresses left to it are a difference of sizes.
	left := make([]uint64, len(l))
	for i, j := range parents(l) {
		left[i] += size(l[i].Prefix)
		if j >= 0 {
			left[j] -= size(l[i].Prefix)
		}
	}
	var result []api.Entry
	for i, entry := range l {
		if left[i] > 0 {
			result = append(result, entry)
		}
	}
	return result
}

// effective returns the entries of a table whose value differs from that of the entry above them.
func effective(l []api.Entry) []api.Entry {
	var result []api.Entry
	for i, j := range parents(l) {
		above := noRoute
		if j >= 0 {
			above = l[j].Value
		}
		if l[i].Value != above {
			result = append(result, l[i])
		}
	}
	return result
}

// parents returns for each entry of a table the index of the entry above it, -1 if there is none.
func parents(l []api.Entry) []int {
	result := make([]int, len(l))
	for i, entry := range l {
		// An entry whose prefix does not cover this one covers no later one, either.
		j := i - 1
		for j >= 0 && !prefix.Covers(l[j].Prefix, entry.Prefix) {
			j = result[j]
		}
		result[i] = j
	}
	return result
}

// size returns the number of addresses of a valid prefix.
func size(p api.Prefix) uint64 {
	return 1 << (32 - p.Len)
}
