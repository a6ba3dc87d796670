package stride_test

import (
	"math"
	"math/rand/v2"
	"slices"
	"sort"
	"testing"

	"routing/api"
)

// This file computes what the chapter defines, without the packages of the program, in addresses of 36 bits: those of
// six digits each, of which the last four bits are 0.

func pre(a api.Addr, n int) api.Prefix {
	return api.Prefix{Addr: a, Len: n}
}

func row(a api.Addr, n, value int) api.Entry {
	return api.Entry{Prefix: pre(a, n), Value: value}
}

// size returns the number of addresses of a prefix of length n.
func size(n int) uint64 {
	return 1 << (32 - n)
}

func last(p api.Prefix) api.Addr {
	return api.Addr(uint64(p.Addr) + size(p.Len) - 1)
}

// lookup is the definition of the lookup in a table.
func lookup(l []api.Entry, a api.Addr) int {
	best := api.Entry{Prefix: pre(0, -1), Value: -1}
	for _, e := range l {
		if a >= e.Prefix.Addr && a <= last(e.Prefix) && e.Prefix.Len > best.Prefix.Len {
			best = e
		}
	}
	return best.Value
}

// points returns the addresses around the ends of the prefixes of a table, ascending.
func points(l []api.Entry) []api.Addr {
	r := []api.Addr{0, 1, math.MaxUint32 - 1, math.MaxUint32}
	for _, e := range l {
		r = append(r, e.Prefix.Addr-1, e.Prefix.Addr, e.Prefix.Addr+1, last(e.Prefix)-1, last(e.Prefix), last(e.Prefix)+1)
	}
	slices.Sort(r)
	return slices.Compact(r)
}

// piece is a run of addresses with equal lookups, which ends before the next one begins.
type piece struct {
	first api.Addr
	value int
}

// pieces returns the lookups of all addresses in a table; neighbors differ.
func pieces(l []api.Entry) []piece {
	var r []piece
	for _, a := range points(l) {
		r = appendPiece(r, piece{a, lookup(l, a)})
	}
	return r
}

func appendPiece(l []piece, p piece) []piece {
	if len(l) > 0 && l[len(l)-1].value == p.value {
		return l
	}
	return append(l, p)
}

// at returns the lookup of an address, and whether the addresses up to end have the same.
func at(l []piece, a, end api.Addr) (int, bool) {
	i := sort.Search(len(l), func(i int) bool { return l[i].first > a }) - 1
	return l[i].value, i+1 == len(l) || l[i+1].first > end
}

// list is a list of count digits, whose numbers are written one after the other in bits.
type list struct {
	bits  uint64
	count int
}

func (d list) then(x int) list {
	return list{d.bits<<6 | uint64(x), d.count + 1}
}

// block returns the first and the last address that begin with d, and false if there is none.
func (d list) block() (api.Addr, api.Addr, bool) {
	first := d.bits << (36 - 6*d.count)
	end := (d.bits + 1) << (36 - 6*d.count)
	if d.count == 6 && first%16 != 0 {
		return 0, 0, false
	}
	return api.Addr(first / 16), api.Addr((end - 1) / 16), true
}

// isNode is the definition of the lists of digits for which there is a node.
func isNode(l []piece, d list) bool {
	first, end, _ := d.block()
	_, equal := at(l, first, end)
	return d.count == 0 || d.count <= 5 && !equal
}

// valueOf is the definition of the value of a digit that is not inner, the last one of d.
func valueOf(l []piece, d list) int {
	first, end, ok := d.block()
	if !ok {
		return valueOf(l, list{d.bits - 1, d.count})
	}
	value, _ := at(l, first, end)
	return value
}

// compress is the definition of the compressed table of a table with the lookups l.
func compress(l []piece) api.Compressed {
	var c api.Compressed
	lists := []list{{}}
	for k := 0; k < len(lists); k++ {
		var n api.CompressedNode
		for x := range 64 {
			d := lists[k].then(x)
			if isNode(l, d) {
				n.Inner |= 1 << x
				lists = append(lists, d)
				continue
			}
			below := x - 1
			for below >= 0 && n.Inner>>below&1 == 1 {
				below--
			}
			if below < 0 || valueOf(l, lists[k].then(below)) != valueOf(l, d) {
				n.Leaf |= 1 << x
				c.Leaves = append(c.Leaves, valueOf(l, d))
			}
		}
		c.Nodes = append(c.Nodes, n)
	}
	number(c)
	return c
}

func count(x uint64) int {
	n := 0
	for i := range 64 {
		n += int(x >> i & 1)
	}
	return n
}

// number sets the fields Nodes and First of all nodes to the numbers that the other fields of the nodes imply.
func number(c api.Compressed) {
	nodes, first := 1, 0
	for k := range c.Nodes {
		c.Nodes[k].Nodes, c.Nodes[k].First = nodes, first
		nodes += count(c.Nodes[k].Inner)
		first += count(c.Nodes[k].Leaf)
	}
}

// reader reads the lookups out of anything that looks like a compressed table.
type reader struct {
	c      api.Compressed
	left   int // nodes that may still be read
	failed bool
	pieces []piece
}

func (r *reader) read(k int, d list) {
	r.left--
	if k < 0 || k >= len(r.c.Nodes) || d.count > 5 || r.left < 0 {
		r.failed = true
		return
	}
	n := r.c.Nodes[k]
	for x := 0; x < 64 && !r.failed; x++ {
		first, _, ok := d.then(x).block()
		if n.Inner>>x&1 == 1 {
			r.read(n.Nodes+count(n.Inner&(1<<x-1)), d.then(x))
			continue
		}
		i := n.First + count(n.Leaf&(2<<x-1)) - 1
		if i < 0 || i >= len(r.c.Leaves) || r.c.Leaves[i] < -1 {
			r.failed = true
			return
		}
		if ok {
			r.pieces = appendPiece(r.pieces, piece{first, r.c.Leaves[i]})
		}
	}
}

// isWellFormed is the definition: c is the compressed table of a table, so it is that of the lookups that it has.
func isWellFormed(c api.Compressed) bool {
	r := reader{c: c, left: len(c.Nodes)}
	r.read(0, list{})
	return !r.failed && equal(c, compress(r.pieces))
}

func equal(c, d api.Compressed) bool {
	return slices.Equal(c.Nodes, d.Nodes) && slices.Equal(c.Leaves, d.Leaves)
}

func clone(c api.Compressed) api.Compressed {
	return api.Compressed{Nodes: slices.Clone(c.Nodes), Leaves: slices.Clone(c.Leaves)}
}

func random() *rand.Rand {
	return rand.New(rand.NewPCG(8, 9))
}

// table returns the table of some of the entries of l, one for each prefix.
func table(l []api.Entry) []api.Entry {
	r := slices.Clone(l)
	slices.SortStableFunc(r, func(d, e api.Entry) int {
		p, q := d.Prefix, e.Prefix
		if p.Addr < q.Addr || p.Addr == q.Addr && p.Len < q.Len {
			return -1
		}
		if p == q {
			return 0
		}
		return 1
	})
	return slices.CompactFunc(r, func(d, e api.Entry) bool { return d.Prefix == e.Prefix })
}

// anyTable returns a table of at most n prefixes of any lengths, many of them near each other.
func anyTable(r *rand.Rand, n int) []api.Entry {
	var l []api.Entry
	values := []int{-1, -1, 0, 1, 2, math.MaxInt}
	around := []api.Addr{0, 0x0a010203, 0x7fffffff, 0x80000000, math.MaxUint32, api.Addr(r.Uint32())}
	for range r.IntN(n + 1) {
		n := max(r.IntN(33), r.IntN(33))
		a := uint64(around[r.IntN(len(around))]^api.Addr(r.IntN(8)*int(size(n)))) / size(n) * size(n)
		l = append(l, row(api.Addr(a), n, values[r.IntN(len(values))]))
	}
	return table(l)
}

// tables returns tables of all sorts.
func tables(r *rand.Rand) [][]api.Entry {
	l := [][]api.Entry{nil, {}, {row(0, 0, 7)}, {row(0, 0, -1)}, {row(0, 0, 1), row(0, 1, 1)}, {row(0, 1, 2), row(1<<31, 1, 2)}}
	for n := range 33 {
		l = append(l, []api.Entry{row(0, n, 3)}, []api.Entry{row(api.Addr(1<<32-size(n)), n, 3)})
	}
	for range 200 {
		l = append(l, anyTable(r, 3), anyTable(r, 25))
	}
	return l
}

// hosts returns a table of n single addresses that are d apart, with different values.
func hosts(n, d int) []api.Entry {
	l := make([]api.Entry, n)
	for i := range l {
		l[i] = row(api.Addr(i*d), 32, i)
	}
	return l
}

// The definitions agree with the examples of the chapter.
func TestDefinitions(t *testing.T) {
	for _, c := range []struct {
		table []api.Entry
		want  api.Compressed
	}{
		{[]api.Entry{row(0, 0, 7)}, api.Compressed{Nodes: []api.CompressedNode{{Leaf: 1, Nodes: 1}}, Leaves: []int{7}}},
		{nil, api.Compressed{Nodes: []api.CompressedNode{{Leaf: 1, Nodes: 1}}, Leaves: []int{-1}}},
		{[]api.Entry{row(0xfc000000, 6, 1)}, api.Compressed{Nodes: []api.CompressedNode{{Leaf: 1 | 1<<63, Nodes: 1}}, Leaves: []int{-1, 1}}},
	} {
		if got := compress(pieces(c.table)); !equal(got, c.want) || !isWellFormed(got) {
			t.Errorf("the compressed table of %v is %v", c.table, got)
		}
	}
}
