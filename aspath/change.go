package aspath

import (
	"slices"

	"routing/api"
)

// Prepend puts a number n times before a path, in segments of a kind.
func Prepend(p []api.Segment, kind, as, n int) ([]api.Segment, api.Errno) {
	if err := checkPrepend(p, kind, as, n); err != api.OK {
		return nil, err
	}
	begin, rest := divide(p, kind)
	numbers := slices.Concat(slices.Repeat([]int{as}, n), Flat(begin))
	result := append(sequences(kind, numbers), duplicate(rest)...)
	if len(result) > api.MaxList {
		return nil, api.ErrTooLong
	}
	return result, api.OK
}

// Strip removes the segments of confederations.
func Strip(p []api.Segment) []api.Segment {
	return slices.DeleteFunc(duplicate(p), func(s api.Segment) bool {
		return isOf(s, api.SegConfSeq, api.SegConfSet)
	})
}

// Merge returns a path that covers both: the common beginning as sequences, the other numbers as a set.
func Merge(a, b []api.Segment) ([]api.Segment, api.Errno) {
	if err := Check(a); err != api.OK {
		return nil, err
	}
	if err := Check(b); err != api.OK {
		return nil, err
	}
	a, b = Strip(a), Strip(b)
	beginA, _ := divide(a, api.SegSeq)
	beginB, _ := divide(b, api.SegSeq)
	both := common(Flat(beginA), Flat(beginB))
	set := slices.Concat(Flat(a)[len(both):], Flat(b)[len(both):])
	slices.Sort(set)
	set = slices.Compact(set)
	result := sequences(api.SegSeq, both)
	if len(set) > 0 {
		result = append(result, api.Segment{Kind: api.SegSet, AS: set})
	}
	if len(set) > api.MaxPath || len(result) > api.MaxList {
		return nil, api.ErrTooLong
	}
	return result, api.OK
}

// checkPrepend checks the arguments of Prepend.
func checkPrepend(p []api.Segment, kind, as, n int) api.Errno {
	if err := Check(p); err != api.OK {
		return err
	}
	if kind != api.SegSeq && kind != api.SegConfSeq {
		return api.ErrKind
	}
	if !isNumber(as) || n < 0 || n > api.MaxPath {
		return api.ErrRange
	}
	if n > 0 && kind == api.SegSeq && len(p) > 0 && isOf(p[0], api.SegConfSeq, api.SegConfSet) {
		return api.ErrInvalid
	}
	return api.OK
}

// divide returns the segments of a kind with which a path begins, and the segments behind them.
func divide(p []api.Segment, kind int) ([]api.Segment, []api.Segment) {
	n := 0
	for n < len(p) && isOf(p[n], kind) {
		n++
	}
	return p[:n:n], p[n:]
}

// sequences returns numbers as sequences of a kind, whose lists are parts of numbers.
func sequences(kind int, numbers []int) []api.Segment {
	var p []api.Segment
	for len(numbers) > 0 {
		n := min(len(numbers), api.MaxPath)
		// The capacity is limited, so that what is appended to a segment does not change the next one.
		p = append(p, api.Segment{Kind: kind, AS: numbers[:n:n]})
		numbers = numbers[n:]
	}
	return p
}

// common returns the longest list with which both lists begin.
func common(a, b []int) []int {
	n := 0
	for n < min(len(a), len(b)) && a[n] == b[n] {
		n++
	}
	return a[:n]
}

// duplicate returns a path that shares no memory with p.
func duplicate(p []api.Segment) []api.Segment {
	result := slices.Clone(p)
	for i, s := range result {
		result[i].AS = slices.Clone(s.AS)
	}
	return result
}
