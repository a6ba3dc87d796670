package stride_test

import (
	"math"
	"math/rand/v2"
	"slices"
	"testing"

	"routing/api"
	"routing/stride"
)

// expect checks the results of all functions for c, be it well formed or not, and reports whether it is.
func expect(t *testing.T, c api.Compressed) bool {
	t.Helper()
	want := api.ErrInvalid
	if len(c.Nodes) == 0 {
		want = api.ErrTruncated
	} else if isWellFormed(c) {
		want = api.OK
	}
	before := clone(c)
	l, e := stride.Table(c)
	if got := stride.Check(c); got != want || e != want {
		t.Fatalf("Check(%v) is %v, Table %v, want %v", c, got, e, want)
	}
	if !equal(c, before) {
		t.Fatalf("Check or Table changes %v to %v", before, c)
	}
	for _, a := range []api.Addr{0, 0x0a010203, 1 << 31, math.MaxUint32} {
		value, steps := stride.Lookup(c, a)
		if want != api.OK && (value != -1 || steps != 0 || len(l) != 0) || want == api.OK && (steps < 1 || steps > 6) {
			t.Fatalf("Lookup(%x) in %v is %d, %d, Table %v", a, c, value, steps, l)
		}
	}
	return want == api.OK
}

// P8.2, P8.3, P8.5
func TestCheckOfFewNodes(t *testing.T) {
	inner := api.CompressedNode{Inner: 1, Leaf: 2, Nodes: 1}
	below := api.CompressedNode{Leaf: 1 | 1<<7, Nodes: 2, First: 1}
	// deep has a node at each depth, and the two nodes in last.
	deep := func(leaf uint64, last ...api.CompressedNode) api.Compressed {
		var c api.Compressed
		for range 5 {
			c.Nodes = append(c.Nodes, inner)
			c.Leaves = append(c.Leaves, 1)
		}
		c.Nodes = append(c.Nodes, last...)
		for i := range count(leaf) {
			c.Leaves = append(c.Leaves, 2+i)
		}
		number(c)
		return c
	}
	for _, c := range []struct {
		what string
		c    api.Compressed
		want api.Errno
	}{
		{"nothing", api.Compressed{}, api.ErrTruncated},
		{"only leaves", api.Compressed{Leaves: []int{-2, 1}}, api.ErrTruncated},
		{"no leaf", api.Compressed{Nodes: []api.CompressedNode{{Nodes: 1}}}, api.ErrInvalid},
		{"a leaf without a digit", api.Compressed{Nodes: []api.CompressedNode{{Nodes: 1}}, Leaves: []int{1}}, api.ErrInvalid},
		{"one leaf", api.Compressed{Nodes: []api.CompressedNode{{Leaf: 1, Nodes: 1}}, Leaves: []int{-1}}, api.OK},
		{"the greatest value", api.Compressed{Nodes: []api.CompressedNode{{Leaf: 1, Nodes: 1}}, Leaves: []int{math.MaxInt}}, api.OK},
		{"a value below -1", api.Compressed{Nodes: []api.CompressedNode{{Leaf: 1, Nodes: 1}}, Leaves: []int{-2}}, api.ErrInvalid},
		{"no first digit", api.Compressed{Nodes: []api.CompressedNode{{Leaf: 2, Nodes: 1}}, Leaves: []int{1}}, api.ErrInvalid},
		{"two runs", api.Compressed{Nodes: []api.CompressedNode{{Leaf: 1 | 1<<63, Nodes: 1}}, Leaves: []int{1, 2}}, api.OK},
		{"two equal runs", api.Compressed{Nodes: []api.CompressedNode{{Leaf: 1 | 1<<63, Nodes: 1}}, Leaves: []int{1, 1}}, api.ErrInvalid},
		{"a leaf too few", api.Compressed{Nodes: []api.CompressedNode{{Leaf: 1 | 1<<63, Nodes: 1}}, Leaves: []int{1}}, api.ErrInvalid},
		{"a leaf too many", api.Compressed{Nodes: []api.CompressedNode{{Leaf: 1, Nodes: 1}}, Leaves: []int{1, 2}}, api.ErrInvalid},
		{"a wrong number of nodes", api.Compressed{Nodes: []api.CompressedNode{{Leaf: 1}}, Leaves: []int{1}}, api.ErrInvalid},
		{"a wrong number of leaves", api.Compressed{Nodes: []api.CompressedNode{{Leaf: 1, Nodes: 1, First: 1}}, Leaves: []int{1}}, api.ErrInvalid},
		{"a node below", api.Compressed{Nodes: []api.CompressedNode{inner, below}, Leaves: []int{1, 1, 2}}, api.OK},
		{"no node below", api.Compressed{Nodes: []api.CompressedNode{inner}, Leaves: []int{1}}, api.ErrInvalid},
		{"equal lookups below", api.Compressed{Nodes: []api.CompressedNode{inner, {Leaf: 1, Nodes: 2, First: 1}}, Leaves: []int{1, 2}}, api.ErrInvalid},
		{"a digit that is inner and a leaf", api.Compressed{Nodes: []api.CompressedNode{{Inner: 1, Leaf: 3, Nodes: 1}, {Leaf: 1 | 1<<7, Nodes: 2, First: 2}}, Leaves: []int{1, 2, 1, 2}}, api.ErrInvalid},
		{"a node that nothing leads to", api.Compressed{Nodes: []api.CompressedNode{{Leaf: 1, Nodes: 1}, {Leaf: 1 | 2, Nodes: 1, First: 1}}, Leaves: []int{1, 2, 3}}, api.ErrInvalid},
		{"a node below itself", api.Compressed{Nodes: []api.CompressedNode{{Leaf: 1, Nodes: 1}, {Inner: 1, Leaf: 2, Nodes: 1, First: 1}}, Leaves: []int{1, 2}}, api.ErrInvalid},
		{"the deepest node", deep(1|1<<16, api.CompressedNode{Leaf: 1 | 1<<16}), api.OK},
		{"four addresses", deep(1|1<<16|1<<32|1<<48, api.CompressedNode{Leaf: 1 | 1<<16 | 1<<32 | 1<<48}), api.OK},
		{"a digit without an address", deep(1|1<<17, api.CompressedNode{Leaf: 1 | 1<<17}), api.ErrInvalid},
		{"a digit behind the last address", deep(1|1<<16|1<<63, api.CompressedNode{Leaf: 1 | 1<<16 | 1<<63}), api.ErrInvalid},
		{"a node that is too deep", deep(2|1|1<<16, api.CompressedNode{Inner: 1, Leaf: 1 << 16}, api.CompressedNode{Leaf: 1 | 1<<16}), api.ErrInvalid},
		{"another node that is too deep", deep(1|1<<32|1<<16, api.CompressedNode{Inner: 1 << 16, Leaf: 1}, api.CompressedNode{Leaf: 1 | 1<<16}), api.ErrInvalid},
	} {
		if got := stride.Check(c.c); got != c.want || expect(t, c.c) != (c.want == api.OK) {
			t.Errorf("%s: Check(%v) is %v, want %v", c.what, c.c, got, c.want)
		}
	}
}

// P8.2
func TestCheckOfBuilt(t *testing.T) {
	for _, l := range tables(random()) {
		if !expect(t, build(t, l)) {
			t.Fatalf("Build(%v) is not well formed", l)
		}
	}
	// More entries than in any table that can be compressed.
	for _, c := range []api.Compressed{build(t, hosts(2000, 1)), compress(pieces(hosts(4096, 1)))} {
		if stride.Check(c) != api.OK {
			t.Error("Check of a large table", stride.Check(c))
		}
	}
}

// wrong returns numbers that may stand in the place of n.
func wrong(n int) []int {
	return []int{n - 1, n + 1, 0, -1, -2, math.MinInt, math.MaxInt, math.MaxInt - 1}
}

// P8.2, P8.3, P8.5: in a well-formed table each field of each node is changed.
func TestCheckOfChangedFields(t *testing.T) {
	r := random()
	for range 12 {
		c := build(t, anyTable(r, 3))
		for k := range c.Nodes {
			for x := range 64 {
				d := clone(c)
				d.Nodes[k].Inner ^= 1 << x
				expect(t, d)
				d = clone(c)
				d.Nodes[k].Leaf ^= 1 << x
				expect(t, d)
			}
			for _, n := range wrong(c.Nodes[k].Nodes) {
				d := clone(c)
				d.Nodes[k].Nodes = n
				expect(t, d)
			}
			for _, n := range wrong(c.Nodes[k].First) {
				d := clone(c)
				d.Nodes[k].First = n
				expect(t, d)
			}
		}
		for i := range c.Leaves {
			for _, n := range wrong(c.Leaves[i]) {
				d := clone(c)
				d.Leaves[i] = n
				expect(t, d)
			}
		}
	}
}

// change makes a few changes to c, after which the numbers of its nodes fit together again.
func change(r *rand.Rand, c api.Compressed) api.Compressed {
	c = clone(c)
	for range 1 + r.IntN(3) {
		n := &c.Nodes[r.IntN(len(c.Nodes))]
		switch x := r.IntN(64); r.IntN(7) {
		case 0:
			n.Leaf ^= 1 << x
		case 1:
			n.Inner ^= 1 << x
		case 2:
			n.Leaf, n.Inner = n.Leaf&^(1<<x), n.Inner|1<<x
		case 3:
			n.Leaf, n.Inner = n.Leaf|1<<x, n.Inner&^(1<<x)
		case 4:
			at := r.IntN(len(c.Nodes) + 1)
			c.Nodes = slices.Insert(c.Nodes, at, api.CompressedNode{Leaf: 1 | 1<<x})
		case 5:
			at := r.IntN(len(c.Nodes) + 1)
			c.Nodes = slices.Insert(c.Nodes, at, api.CompressedNode{Leaf: 1})
		case 6:
			if len(c.Nodes) > 1 {
				at := r.IntN(len(c.Nodes))
				c.Nodes = slices.Delete(c.Nodes, at, at+1)
			}
		}
	}
	number(c)
	end := c.Nodes[len(c.Nodes)-1]
	for need := end.First + count(end.Leaf); len(c.Leaves) != need; {
		at := r.IntN(len(c.Leaves) + 1)
		if len(c.Leaves) < need {
			c.Leaves = slices.Insert(c.Leaves, at, r.IntN(4)-1)
		} else if at < len(c.Leaves) {
			c.Leaves = slices.Delete(c.Leaves, at, at+1)
		}
	}
	return c
}

// P8.2, P8.3, P8.5: changes of several fields, some of which lead to other well-formed tables.
func TestCheckOfChangedTables(t *testing.T) {
	r := random()
	good, bad := 0, 0
	for range 300 {
		c := build(t, anyTable(r, 3))
		for range 40 {
			if expect(t, change(r, c)) {
				good++
			} else {
				bad++
			}
		}
	}
	if good < 100 || bad < 100 {
		t.Error("changes to", good, "well-formed tables and to", bad, "others")
	}
}
