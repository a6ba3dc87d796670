package stride_test

import (
	"math"
	"slices"
	"testing"

	"routing/aggregate"
	"routing/api"
	"routing/stride"
)

func build(t *testing.T, l []api.Entry) api.Compressed {
	t.Helper()
	c, e := stride.Build(l)
	if e != api.OK {
		t.Fatalf("Build(%v) is %v", l, e)
	}
	return c
}

// P8.1
func TestBuild(t *testing.T) {
	for _, l := range tables(random()) {
		if got, want := build(t, l), compress(pieces(l)); !equal(got, want) {
			t.Fatalf("Build(%v) = %v, want %v", l, got, want)
		}
	}
}

// P8.1
func TestBuildOfFewEntries(t *testing.T) {
	for _, c := range []struct {
		table []api.Entry
		want  api.Compressed
	}{
		{[]api.Entry{row(0, 0, 7)}, api.Compressed{Nodes: []api.CompressedNode{{Leaf: 1, Nodes: 1}}, Leaves: []int{7}}},
		{nil, api.Compressed{Nodes: []api.CompressedNode{{Leaf: 1, Nodes: 1}}, Leaves: []int{-1}}},
		{[]api.Entry{row(0xfc000000, 6, 1)}, api.Compressed{Nodes: []api.CompressedNode{{Leaf: 1 | 1<<63, Nodes: 1}}, Leaves: []int{-1, 1}}},
		// Digit 2 of the root is inner; the runs of leaves go on behind it.
		{[]api.Entry{row(0, 0, 5), row(0x08000000, 7, 6)}, api.Compressed{
			Nodes:  []api.CompressedNode{{Inner: 1 << 2, Leaf: 1, Nodes: 1}, {Leaf: 1 | 1<<32, Nodes: 2, First: 1}},
			Leaves: []int{5, 6, 5}}},
		// All digits of the root but 0 and 1 have the value of digit 0, which is inner; two nodes are below.
		{[]api.Entry{row(0, 0, 5), row(0, 12, 6), row(0x04100000, 12, 6)}, api.Compressed{
			Nodes: []api.CompressedNode{{Inner: 3, Leaf: 4, Nodes: 1},
				{Leaf: 1 | 2, Nodes: 3, First: 1}, {Leaf: 1 | 2 | 4, Nodes: 3, First: 3}},
			Leaves: []int{5, 6, 5, 5, 6, 5}}},
		// The last node holds four addresses, at every sixteenth digit.
		{[]api.Entry{row(0, 0, 5), row(2, 32, 6)}, api.Compressed{
			Nodes: []api.CompressedNode{{Inner: 1, Leaf: 2, Nodes: 1}, {Inner: 1, Leaf: 2, Nodes: 2, First: 1},
				{Inner: 1, Leaf: 2, Nodes: 3, First: 2}, {Inner: 1, Leaf: 2, Nodes: 4, First: 3},
				{Inner: 1, Leaf: 2, Nodes: 5, First: 4}, {Leaf: 1 | 1<<32 | 1<<48, Nodes: 6, First: 5}},
			Leaves: []int{5, 5, 5, 5, 5, 5, 6, 5}}},
	} {
		if got := build(t, c.table); !equal(got, c.want) {
			t.Errorf("Build(%v) = %v, want %v", c.table, got, c.want)
		}
	}
}

// P8.1
func TestBuildOfManyEntries(t *testing.T) {
	// Each node of depth 4 has all of its digits as nodes.
	c := build(t, hosts(1024, 1))
	n, k := stride.Size(c)
	if n != 1+1+1+1+4+256 || k != 4*1+1024 || stride.Check(c) != api.OK {
		t.Error("1024 hosts", n, k)
	}
	if c.Nodes[4].Inner != math.MaxUint64 || c.Nodes[4].Leaf != 0 || c.Nodes[8].Leaf != 1|1<<16|1<<32|1<<48 {
		t.Error("nodes of 1024 hosts", c.Nodes[:9])
	}
	// Each host needs nodes of its own, but for the root.
	c = build(t, hosts(64, 1<<26))
	n, k = stride.Size(c)
	if n != 1+64*5 || k != 64*(4+2) || stride.Check(c) != api.OK {
		t.Error("64 hosts", n, k)
	}
}

// P8.1
func TestBuildErrors(t *testing.T) {
	good := row(0x0a000000, 8, 1)
	for _, c := range []struct {
		list []api.Entry
		want api.Errno
	}{
		{hosts(2001, 1), api.ErrTooLong},
		{append(hosts(2000, 1), row(0, 33, -2)), api.ErrTooLong},
		{[]api.Entry{row(0x0a000001, 8, -2), good}, api.ErrInvalid},
		{[]api.Entry{row(0, -1, 1)}, api.ErrInvalid},
		{[]api.Entry{row(0, 33, 1)}, api.ErrInvalid},
		{[]api.Entry{good, row(0, 0, -2)}, api.ErrRange},
		{[]api.Entry{row(0, 0, math.MinInt), row(1, 0, 0)}, api.ErrRange},
		{[]api.Entry{good, good}, api.ErrOrder},
		{[]api.Entry{good, row(0, 0, 1), row(0, 0, -2)}, api.ErrOrder},
	} {
		if got, e := stride.Build(c.list); e != c.want || got.Nodes != nil || got.Leaves != nil {
			t.Errorf("Build(%v) is %v, %v, want %v", c.list[:min(3, len(c.list))], got, e, c.want)
		}
	}
	if _, e := stride.Build(hosts(2000, 1)); e != api.OK {
		t.Error("Build of 2000 entries", e)
	}
}

// P8.3, P8.6
func TestLookup(t *testing.T) {
	r := random()
	for _, l := range tables(r) {
		c, all := build(t, l), pieces(l)
		addresses := points(l)
		for range 20 {
			addresses = append(addresses, api.Addr(r.Uint32()), api.Addr(r.Uint32()>>r.IntN(32)))
		}
		for _, a := range addresses {
			steps := 1
			for d := 1; d <= 5 && isNode(all, list{uint64(a) << 4 >> (36 - 6*d), d}); d++ {
				steps++
			}
			value, got := stride.Lookup(c, a)
			if value != lookup(l, a) || value != aggregate.Lookup(l, a) || got != steps || got > 6 {
				t.Fatalf("Lookup(%x) in %v is %d, %d, want %d, %d", a, l, value, got, lookup(l, a), steps)
			}
		}
	}
}

// P8.3, P8.6
func TestLookupOfExamples(t *testing.T) {
	c := build(t, []api.Entry{row(0xfc000000, 6, 1)})
	if value, steps := stride.Lookup(c, 0xff000000); value != 1 || steps != 1 {
		t.Error("255.0.0.0", value, steps)
	}
	if value, steps := stride.Lookup(c, 0xfb000000); value != -1 || steps != 1 {
		t.Error("251.0.0.0", value, steps)
	}
	l := hosts(2000, 2)
	c = build(t, l)
	for _, i := range []int{0, 1, 2, 3, 126, 127, 128, 129, 3997, 3998, 3999} {
		if value, steps := stride.Lookup(c, api.Addr(i)); value != aggregate.Lookup(l, api.Addr(i)) || steps != 6 {
			t.Error("address", i, value, steps)
		}
	}
	if value, steps := stride.Lookup(c, 4096); value != -1 || steps != 4 {
		t.Error("address 4096", value, steps)
	}
}

// P8.4
func TestSize(t *testing.T) {
	for _, l := range tables(random()) {
		c := compress(pieces(l))
		if n, k := stride.Size(build(t, l)); n != len(c.Nodes) || k != len(c.Leaves) {
			t.Fatalf("Size of %v: %d, %d", l, n, k)
		}
	}
	for _, nodes := range []int{0, 1, 5} {
		for _, leaves := range []int{0, 1, 7} {
			c := api.Compressed{Nodes: make([]api.CompressedNode, nodes), Leaves: make([]int, leaves)}
			if n, k := stride.Size(c); n != nodes || k != leaves {
				t.Errorf("Size of %d nodes and %d leaves: %d, %d", nodes, leaves, n, k)
			}
		}
	}
}

// disjoint is the definition of Table for the lookups l, of which it returns the part for p.
func disjoint(l []piece, p api.Prefix) []api.Entry {
	value, equal := at(l, p.Addr, last(p))
	if !equal {
		low, high := pre(p.Addr, p.Len+1), pre(p.Addr+api.Addr(size(p.Len)/2), p.Len+1)
		return append(disjoint(l, low), disjoint(l, high)...)
	}
	if value == -1 {
		return nil
	}
	return []api.Entry{{Prefix: p, Value: value}}
}

// P8.5
func TestTable(t *testing.T) {
	for _, l := range tables(random()) {
		got, e := stride.Table(build(t, l))
		if want := disjoint(pieces(l), pre(0, 0)); e != api.OK || !slices.Equal(got, want) {
			t.Fatalf("Table of %v is %v, %v, want %v", l, got, e, want)
		}
	}
}

// P8.5
func TestTableOfFewEntries(t *testing.T) {
	for _, c := range []struct{ table, want []api.Entry }{
		{nil, nil},
		{[]api.Entry{row(0, 0, -1), row(5, 32, -1)}, nil},
		{[]api.Entry{row(0, 1, 4), row(1<<31, 2, 4), row(3<<30, 2, 4)}, []api.Entry{row(0, 0, 4)}},
		{[]api.Entry{row(0, 0, 4), row(1<<31, 1, -1)}, []api.Entry{row(0, 1, 4)}},
		{[]api.Entry{row(0, 30, 4), row(3, 32, 5)}, []api.Entry{row(0, 31, 4), row(2, 32, 4), row(3, 32, 5)}},
		// Neighbors that are not the halves of a prefix stay apart.
		{[]api.Entry{row(1, 32, 4), row(2, 32, 4)}, []api.Entry{row(1, 32, 4), row(2, 32, 4)}},
		{[]api.Entry{row(0x0a000000, 8, 1), row(0x0b000000, 8, 1), row(0x0c000000, 8, 1)}, []api.Entry{row(0x0a000000, 7, 1), row(0x0c000000, 8, 1)}},
	} {
		if got, e := stride.Table(build(t, c.table)); e != api.OK || !slices.Equal(got, c.want) {
			t.Errorf("Table of %v is %v, %v, want %v", c.table, got, e, c.want)
		}
	}
}

// P8.5: a table may have more entries than a table that can be compressed.
func TestTableOfManyEntries(t *testing.T) {
	l := table(append(hosts(1000, 1<<22), row(0, 0, 5000)))
	want := disjoint(pieces(l), pre(0, 0))
	got, e := stride.Table(build(t, l))
	if e != api.OK || len(want) <= api.MaxEntries || !slices.Equal(got, want) {
		t.Error("Table has", len(got), "entries, want", len(want), e)
	}
	if _, e := stride.Build(got); e != api.ErrTooLong {
		t.Error("Build of that table", e)
	}
}

// P8.7
func TestCanonicalForm(t *testing.T) {
	for _, l := range tables(random()) {
		c := build(t, l)
		short, _ := aggregate.Minimal(l)
		trimmed, _ := aggregate.Trim(l)
		flat, _ := stride.Table(c)
		if len(flat) > api.MaxEntries {
			t.Fatalf("Table of %v has %d entries", l, len(flat))
		}
		for _, same := range [][]api.Entry{short, trimmed, flat} {
			if got := build(t, same); !equal(got, c) {
				t.Fatalf("%v and %v are compressed to %v and %v", l, same, c, got)
			}
		}
	}
}

// R5, R6
func TestResultsAreNew(t *testing.T) {
	for _, l := range tables(random()) {
		spare := append(slices.Clone(l), row(1, 2, 3))
		first, second := build(t, spare[:len(l)]), build(t, l)
		flat, _ := stride.Table(first)
		stride.Lookup(first, 0x0a010203)
		if !equal(first, second) || !slices.Equal(spare[:len(l)], l) || spare[len(l)] != row(1, 2, 3) {
			t.Fatalf("calls change %v or %v", l, second)
		}
		clear(first.Nodes)
		clear(first.Leaves)
		again, _ := stride.Table(second)
		if !slices.Equal(flat, again) || !slices.Equal(spare[:len(l)], l) {
			t.Fatalf("changing a result changes %v or %v", l, flat)
		}
		clear(again)
		if third := build(t, l); !equal(third, second) {
			t.Fatalf("changing the table of %v changes it", second)
		}
	}
}
