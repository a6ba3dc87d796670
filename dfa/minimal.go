package dfa

import (
	"slices"

	"routing/api"
)

// Minimal returns the minimal automaton with the same language, in the same numbering as Build.
func Minimal(d api.DFA) (api.DFA, api.Errno) {
	if err := Check(d); err != api.OK {
		return api.DFA{}, err
	}
	return minimal(d), api.OK
}

// minimal is Minimal for an automaton that is well formed but for the numbers of its states and classes.
func minimal(d api.DFA) api.DFA {
	block := equivalent(d)
	// The states of a block become one state, which has the transitions of the first one that is reached.
	states, number := []int{d.Start}, slices.Repeat([]int{-1}, len(d.Next))
	number[block[d.Start]] = 0
	for i := 0; i < len(states); i++ {
		for _, next := range d.Next[states[i]] {
			if number[block[next]] < 0 {
				number[block[next]] = len(states)
				states = append(states, next)
			}
		}
	}
	m := api.DFA{Next: make([][]int, len(states))}
	for c, start := range d.Starts {
		differs := func(s int) bool { return block[d.Next[s][c]] != block[d.Next[s][c-1]] }
		if c > 0 && !slices.ContainsFunc(states, differs) {
			continue
		}
		m.Starts = append(m.Starts, start)
		for i, s := range states {
			m.Next[i] = append(m.Next[i], number[block[d.Next[s][c]]])
		}
	}
	for _, s := range states {
		m.Accept = append(m.Accept, d.Accept[s])
	}
	return m
}
