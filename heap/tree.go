package heap

// tree is a binary tree of items, in the order of its levels: the kids of the item at the place p are at the places
// 2p+1 and 2p+2, and neither of them comes before it.
type tree struct {
	items  []int
	places []int // of all items; -1 for those that are not in the tree
}

// newTree returns an empty tree for the items 0 to n-1.
func newTree(n int) tree {
	places := make([]int, n)
	for item := range places {
		places[item] = -1
	}
	return tree{places: places}
}

// has reports whether the item is in the tree.
func (t *tree) has(item int) bool {
	return item >= 0 && item < len(t.places) && t.places[item] >= 0
}

// put inserts an item, or moves it to a new place if it is there and the order has changed for it.
func (t *tree) put(item int, before func(a, b int) bool) {
	if !t.has(item) {
		t.places[item] = len(t.items)
		t.items = append(t.items, item)
	}
	t.settle(t.places[item], before)
}

// drop removes an item that is in the tree.
func (t *tree) drop(item int, before func(a, b int) bool) {
	place, last := t.places[item], len(t.items)-1
	t.swap(place, last)
	t.items = t.items[:last]
	t.places[item] = -1
	if place < last {
		t.settle(place, before)
	}
}

// settle moves the item at a place up or down until all items are in order, if the others are.
func (t *tree) settle(place int, before func(a, b int) bool) {
	for place > 0 {
		parent := (place - 1) / 2
		if !before(t.items[place], t.items[parent]) {
			break
		}
		t.swap(place, parent)
		place = parent
	}
	for {
		first := place
		for kid := 2*place + 1; kid <= 2*place+2 && kid < len(t.items); kid++ {
			if before(t.items[kid], t.items[first]) {
				first = kid
			}
		}
		if first == place {
			return
		}
		t.swap(place, first)
		place = first
	}
}

// swap exchanges the items at two places.
func (t *tree) swap(a, b int) {
	t.items[a], t.items[b] = t.items[b], t.items[a]
	t.places[t.items[a]], t.places[t.items[b]] = a, b
}
