package compile

import "routing/api"

// diagram contains each branch and each list of actions once, so that nodes with equal outcomes have equal numbers. A
// number from 0 on is that of a branch; the leaf 0 rejects, and the leaf k > 0 accepts with the list of actions k - 1.
type diagram struct {
	branches []api.Branch
	numbers  map[api.Branch]int // the indexes in branches
	lists    []list
	places   map[list]int // the indexes in lists
}

// list is a list of actions: the first one, and the place of the list of the others. The list at the place 0 is empty.
type list struct {
	first        api.Action
	rest, length int
}

const (
	rejects = -1             // the number of the leaf that rejects
	noTest  = api.MaxEntries // stands for the test of a leaf, behind all tests
)

func newDiagram() *diagram {
	return &diagram{numbers: map[api.Branch]int{}, lists: []list{{}}, places: map[list]int{}}
}

// accepts returns the number of the leaf that accepts with the list of actions at a place.
func accepts(place int) int { return leafOf(place + 1) }

// placeOf returns the place of the list of actions of a leaf that accepts.
func placeOf(leaf int) int { return leafOf(leaf) - 1 }

// branch returns the number of the node with the outcomes of a branch.
func (d *diagram) branch(b api.Branch) int {
	if b.Yes == b.No {
		return b.Yes
	}
	n, ok := d.numbers[b]
	if !ok {
		n = len(d.branches)
		d.branches, d.numbers[b] = append(d.branches, b), n
	}
	return n
}

// test returns the test of a node.
func (d *diagram) test(n int) int {
	if n < 0 {
		return noTest
	}
	return d.branches[n].Test
}

// after returns the node with the outcomes of n for a result of a test, which is not behind that of n.
func (d *diagram) after(n, test int, result bool) int {
	switch {
	case d.test(n) != test:
		return n
	case result:
		return d.branches[n].Yes
	}
	return d.branches[n].No
}

// before returns the place of the list of some actions, followed by those of the list at another place.
func (d *diagram) before(actions []api.Action, rest int) int {
	for i := len(actions) - 1; i >= 0; i-- {
		l := list{first: actions[i], rest: rest, length: d.lists[rest].length + 1}
		place, ok := d.places[l]
		if !ok {
			place = len(d.lists)
			d.lists, d.places[l] = append(d.lists, l), place
		}
		rest = place
	}
	return rest
}

// actions returns the actions of the list at a place.
func (d *diagram) actions(place int) []api.Action {
	actions := make([]api.Action, 0, d.lists[place].length)
	for ; place != 0; place = d.lists[place].rest {
		actions = append(actions, d.lists[place].first)
	}
	return actions
}

// fork is a test and the states to which its results lead.
type fork[S any] struct {
	test    int
	yes, no S
}

// node returns the node for a state, given the successors of each state or, if it has none, the node that it ends in.
func node[S comparable](d *diagram, state S, successors func(S) (fork[S], bool), end func(S) int) int {
	known := map[S]int{}
	var visit func(S) int
	visit = func(s S) int {
		n, ok := known[s]
		if ok {
			return n
		}
		if f, ok := successors(s); ok {
			n = d.branch(api.Branch{Test: f.test, Yes: visit(f.yes), No: visit(f.no)})
		} else {
			n = end(s)
		}
		known[s] = n
		return n
	}
	return visit(state)
}

// add returns the node with the outcomes of a well-formed automaton.
func (d *diagram) add(a api.Automaton) int {
	return node(d, a.Root, func(n int) (fork[int], bool) {
		if n < 0 {
			return fork[int]{}, false
		}
		b := a.Branches[n]
		return fork[int]{test: b.Test, yes: b.Yes, no: b.No}, true
	}, func(n int) int {
		l := a.Leaves[leafOf(n)]
		if !l.Accept {
			return rejects
		}
		return accepts(d.before(l.Actions, 0))
	})
}

// order lists the nodes that can be reached from a root.
type order struct {
	branches, leaves []int
	numbers          map[int]int // of these nodes, in an automaton that has them in this order
}

// order returns the nodes below a root in the order in which a walk first meets them that considers Yes before No.
func (d *diagram) order(root int) order {
	o := order{numbers: map[int]int{}}
	var visit func(n int)
	visit = func(n int) {
		if _, met := o.numbers[n]; met {
			return
		}
		if n < 0 {
			o.numbers[n] = leafOf(len(o.leaves))
			o.leaves = append(o.leaves, n)
			return
		}
		o.numbers[n] = len(o.branches)
		o.branches = append(o.branches, n)
		visit(d.branches[n].Yes)
		visit(d.branches[n].No)
	}
	visit(root)
	return o
}

// fits reports whether the reduced automaton with the outcomes of a node is within the limits.
func (d *diagram) fits(root int) bool {
	o := d.order(root)
	for _, n := range o.leaves {
		if n != rejects && d.lists[placeOf(n)].length > api.MaxEntries {
			return false
		}
	}
	return len(o.branches) <= api.MaxStates && len(o.leaves) <= api.MaxStates
}

// automaton returns the reduced automaton with the outcomes of a node.
func (d *diagram) automaton(tests []api.Test, root int) api.Automaton {
	o := d.order(root)
	a := api.Automaton{Root: o.numbers[root]}
	for _, t := range tests {
		a.Tests = append(a.Tests, duplicate(t))
	}
	for _, n := range o.branches {
		b := d.branches[n]
		a.Branches = append(a.Branches, api.Branch{Test: b.Test, Yes: o.numbers[b.Yes], No: o.numbers[b.No]})
	}
	for _, n := range o.leaves {
		l := api.Leaf{Accept: n != rejects}
		if l.Accept {
			l.Actions = d.actions(placeOf(n))
		}
		a.Leaves = append(a.Leaves, l)
	}
	return a
}
