package community

import (
	"cmp"
	"slices"
)

// ascends reports whether a list is strictly ascending.
func ascends[T cmp.Ordered](l []T) bool {
	for i := 1; i < len(l); i++ {
		if l[i-1] >= l[i] {
			return false
		}
	}
	return true
}

// union returns the elements of lists in any order, each once, as a new strictly ascending list.
func union[T cmp.Ordered](lists ...[]T) []T {
	set := slices.Concat(lists...)
	slices.Sort(set)
	return slices.Compact(set)
}
