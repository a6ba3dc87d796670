package aggregate_test

import (
	"math"
	"math/rand/v2"
	"slices"
	"testing"

	"routing/aggregate"
	"routing/api"
)

func pre(a api.Addr, n int) api.Prefix {
	return api.Prefix{Addr: a, Len: n}
}

func row(a api.Addr, n, value int) api.Entry {
	return api.Entry{Prefix: pre(a, n), Value: value}
}

// size returns the number of addresses of a prefix of length n.
func size(n int) uint64 {
	return 1 << (32 - n)
}

func isValid(p api.Prefix) bool {
	return p.Len >= 0 && p.Len <= 32 && uint64(p.Addr)%size(p.Len) == 0
}

func last(p api.Prefix) api.Addr {
	return api.Addr(uint64(p.Addr) + size(p.Len) - 1)
}

func contains(p api.Prefix, a api.Addr) bool {
	return a >= p.Addr && a <= last(p)
}

// covers is true for valid prefixes if p is shorter than q or equal to it, and contains it.
func covers(p, q api.Prefix) bool {
	return p.Len <= q.Len && contains(p, q.Addr)
}

func less(p, q api.Prefix) bool {
	return p.Addr < q.Addr || p.Addr == q.Addr && p.Len < q.Len
}

// lookup is the definition of the lookup in a table.
func lookup(l []api.Entry, a api.Addr) int {
	best := api.Entry{Prefix: pre(0, -1), Value: -1}
	for _, e := range l {
		if contains(e.Prefix, a) && e.Prefix.Len > best.Prefix.Len {
			best = e
		}
	}
	return best.Value
}

// points returns addresses such that tables with the prefixes of the lists agree if they agree at all of these,
// ascending; the least address at which they do not agree is among them.
func points(lists ...[]api.Entry) []api.Addr {
	r := []api.Addr{0, math.MaxUint32}
	for _, l := range lists {
		for _, e := range l {
			r = append(r, e.Prefix.Addr-1, e.Prefix.Addr, e.Prefix.Addr+1, last(e.Prefix)-1, last(e.Prefix), last(e.Prefix)+1)
		}
	}
	slices.Sort(r)
	return slices.Compact(r)
}

// differ is the definition of the least address at which two tables differ.
func differ(a, b []api.Entry) (api.Addr, bool) {
	for _, x := range points(a, b) {
		if lookup(a, x) != lookup(b, x) {
			return x, true
		}
	}
	return 0, false
}

func isTable(l []api.Entry) bool {
	for i, e := range l {
		if !isValid(e.Prefix) || e.Value < -1 || i > 0 && !less(l[i-1].Prefix, e.Prefix) {
			return false
		}
	}
	return len(l) <= api.MaxEntries
}

// sorted returns a table of some of the entries of l, one for each prefix.
func sorted(l []api.Entry) []api.Entry {
	r := slices.Clone(l)
	slices.SortStableFunc(r, func(d, e api.Entry) int {
		if less(d.Prefix, e.Prefix) {
			return -1
		}
		if less(e.Prefix, d.Prefix) {
			return 1
		}
		return 0
	})
	return slices.CompactFunc(r, func(d, e api.Entry) bool { return d.Prefix == e.Prefix })
}

func random() *rand.Rand {
	return rand.New(rand.NewPCG(7, 8))
}

// spaces are prefixes whose eighths are distinguished by small tables.
func spaces() []api.Prefix {
	return []api.Prefix{pre(0, 0), pre(0, 29), pre(0xfffffff8, 29), pre(0x0a010200, 23), pre(0x7ffffff8, 29), pre(0x80000000, 1)}
}

// parts returns the prefixes of at least an eighth of a space.
func parts(space api.Prefix) []api.Prefix {
	var l []api.Prefix
	for d := range 4 {
		for i := range 1 << d {
			n := space.Len + d
			l = append(l, pre(space.Addr+api.Addr(uint64(i)*size(n)), n))
		}
	}
	return l
}

// smallTable returns a table of at most n parts of a space with some of three values.
func smallTable(r *rand.Rand, space api.Prefix, n int) []api.Entry {
	var l []api.Entry
	all := parts(space)
	for range r.IntN(n + 1) {
		l = append(l, api.Entry{Prefix: all[r.IntN(len(all))], Value: r.IntN(3) - 1})
	}
	return sorted(l)
}

// anyTable returns a table of at most n prefixes of any lengths, many of them near each other.
func anyTable(r *rand.Rand, n int) []api.Entry {
	var l []api.Entry
	values := []int{-1, 0, 1, 2, math.MaxInt}
	around := []api.Addr{0, 0x0a010203, 0x7fffffff, 0x80000000, math.MaxUint32, api.Addr(r.Uint32())}
	for range r.IntN(n + 1) {
		n := max(r.IntN(33), r.IntN(33))
		a := uint64(around[r.IntN(len(around))]^api.Addr(r.IntN(8)*int(size(n)))) / size(n) * size(n)
		l = append(l, row(api.Addr(a), n, values[r.IntN(len(values))]))
	}
	return sorted(l)
}

// tables returns tables of all sorts.
func tables(r *rand.Rand) [][]api.Entry {
	l := [][]api.Entry{nil, {}, {row(0, 0, 1)}, {row(0, 0, -1)}, {row(0, 0, 1), row(0, 1, 1)}, {row(0, 1, 2), row(1<<31, 1, 2)}}
	for i := range 600 {
		l = append(l, smallTable(r, spaces()[i%len(spaces())], 15), anyTable(r, 25))
	}
	return l
}

// long returns a table of n entries.
func long(n int) []api.Entry {
	l := make([]api.Entry, n)
	for i := range l {
		l[i] = row(api.Addr(i), 32, i)
	}
	return l
}

// noTable is a list that is not a table, with its error.
type noTable struct {
	list []api.Entry
	want api.Errno
}

func noTables() []noTable {
	good, late := row(0x0a000000, 8, 1), row(0x0b000000, 8, 1)
	bad, low := row(0x0b000001, 8, 1), row(0x0b000000, 8, -2)
	l := []noTable{
		{[]api.Entry{good, late, good}, api.ErrOrder},
		{[]api.Entry{good, good}, api.ErrOrder},
		{[]api.Entry{good, row(0x0a000000, 8, 2)}, api.ErrOrder},
		{[]api.Entry{row(0x0a000000, 9, 1), good}, api.ErrOrder},
		{[]api.Entry{late, good}, api.ErrOrder},
		{[]api.Entry{low}, api.ErrRange},
		{[]api.Entry{row(0, 0, math.MinInt)}, api.ErrRange},
		{[]api.Entry{late, row(0x0a000000, 8, -2)}, api.ErrRange},
		{[]api.Entry{late, row(0x0a000001, 8, -2)}, api.ErrInvalid},
		{[]api.Entry{good, bad, low}, api.ErrInvalid},
		{[]api.Entry{good, low, bad}, api.ErrRange},
		{[]api.Entry{late, good, bad}, api.ErrOrder},
		{[]api.Entry{late, good, low}, api.ErrOrder},
		{append(long(2000), row(5, 0, -5)), api.ErrTooLong},
		{append([]api.Entry{bad}, long(2000)...), api.ErrTooLong},
		{long(2001), api.ErrTooLong},
	}
	for _, n := range []int{-1, -32, 33, 40, 64, 1<<32 + 8, math.MinInt, math.MaxInt} {
		l = append(l, noTable{[]api.Entry{row(0, n, 1)}, api.ErrInvalid}, noTable{[]api.Entry{good, row(0x0b000000, n, -2)}, api.ErrInvalid})
	}
	return l
}

// P7.1
func TestCheck(t *testing.T) {
	for _, c := range noTables() {
		if e := aggregate.Check(c.list); e != c.want {
			t.Errorf("Check(%v) is %v, want %v", c.list[:min(5, len(c.list))], e, c.want)
		}
	}
	for _, l := range append(tables(random()), long(2000), []api.Entry{row(0, 0, -1)}, []api.Entry{row(math.MaxUint32, 32, math.MaxInt)}) {
		if e := aggregate.Check(l); e != api.OK || !isTable(l) {
			t.Errorf("Check(%v) is %v", l, e)
		}
	}
}

// P7.2
func TestLookup(t *testing.T) {
	hole := []api.Entry{row(0x0a000000, 8, 1), row(0x0a010000, 16, -1), row(0x0a010200, 24, 0)}
	for a, want := range map[api.Addr]int{0x09ffffff: -1, 0x0a000000: 1, 0x0a010000: -1, 0x0a0102ff: 0, 0x0a010300: -1, 0x0a020000: 1, 0x0b000000: -1} {
		if got := aggregate.Lookup(hole, a); got != want {
			t.Errorf("Lookup(%x) = %d, want %d", a, got, want)
		}
	}
	for _, l := range tables(random()) {
		for _, a := range points(l) {
			if got := aggregate.Lookup(l, a); got != lookup(l, a) {
				t.Fatalf("Lookup(%v, %x) = %d, want %d", l, a, got, lookup(l, a))
			}
		}
	}
	for _, c := range noTables() {
		for _, a := range []api.Addr{0, 5, 0x0a000000, 0x0b000000, math.MaxUint32} {
			if got := aggregate.Lookup(c.list, a); got != -1 {
				t.Errorf("Lookup in %v is %d", c.list[:min(5, len(c.list))], got)
			}
		}
	}
}

// P7.3
func TestSameAndDiffer(t *testing.T) {
	r := random()
	all := tables(r)
	for i := range 6000 {
		a := all[i%len(all)]
		b := slices.Clone(all[r.IntN(len(all))])
		if i%2 == 0 && len(a) > 0 {
			// Another way to say the same, or nearly so.
			b = slices.Clone(a)
			k := r.IntN(len(b))
			b = sorted(append(b, api.Entry{Prefix: b[k].Prefix, Value: b[k].Value}, row(b[k].Prefix.Addr, 32, lookup(a, b[k].Prefix.Addr))))
			if i%4 == 0 {
				b[r.IntN(len(b))].Value++
				b = slices.DeleteFunc(b, func(e api.Entry) bool { return e.Value < -1 })
			}
		}
		address, found := differ(a, b)
		if got, ok := aggregate.Differ(a, b); got != address || ok != found {
			t.Fatalf("Differ(%v, %v) = %x, %t, want %x, %t", a, b, got, ok, address, found)
		}
		if aggregate.Same(a, b) == found {
			t.Fatalf("Same(%v, %v) is %t", a, b, !found)
		}
	}
}

// P7.3
func TestDifferAtTheEnds(t *testing.T) {
	all := []api.Entry{row(0, 0, 1)}
	for _, c := range []struct {
		table []api.Entry
		want  api.Addr
	}{
		{nil, 0},
		{[]api.Entry{row(0, 0, 1), row(0, 32, 2)}, 0},
		{[]api.Entry{row(0, 0, 1), row(math.MaxUint32, 32, 2)}, math.MaxUint32},
		{[]api.Entry{row(0, 0, 1), row(math.MaxUint32, 32, -1)}, math.MaxUint32},
		{[]api.Entry{row(0, 1, 1)}, 1 << 31},
		{[]api.Entry{row(1<<31, 1, 1)}, 0},
		{[]api.Entry{row(0, 0, 2), row(0, 1, 1)}, 1 << 31},
	} {
		got, ok := aggregate.Differ(all, c.table)
		back, okBack := aggregate.Differ(c.table, all)
		if !ok || !okBack || got != c.want || back != c.want || aggregate.Same(all, c.table) {
			t.Errorf("Differ of %v: %x, %t, %x, %t", c.table, got, ok, back, okBack)
		}
	}
	if !aggregate.Same(nil, []api.Entry{row(0, 0, -1), row(5, 32, -1)}) {
		t.Error("tables without routes are not equivalent")
	}
}

// P7.3: lists that are not tables are not equivalent to anything and differ nowhere.
func TestDifferOfNoTables(t *testing.T) {
	for _, c := range noTables() {
		for _, l := range [][]api.Entry{nil, {row(0, 0, 1)}, c.list} {
			a, ok := aggregate.Differ(c.list, l)
			b, okBack := aggregate.Differ(l, c.list)
			if a != 0 || ok || b != 0 || okBack || aggregate.Same(c.list, l) || aggregate.Same(l, c.list) {
				t.Errorf("Same or Differ of %v and %v: %x, %t, %x, %t", c.list[:min(5, len(c.list))], l[:min(5, len(l))], a, ok, b, okBack)
			}
		}
	}
}

// P7.4, P7.5
func TestErrors(t *testing.T) {
	for _, c := range noTables() {
		m, e := aggregate.Minimal(c.list)
		if len(m) != 0 || e != c.want {
			t.Errorf("Minimal(%v): %v, %v", c.list[:min(5, len(c.list))], m, e)
		}
		m, e = aggregate.Trim(c.list)
		if len(m) != 0 || e != c.want {
			t.Errorf("Trim(%v): %v, %v", c.list[:min(5, len(c.list))], m, e)
		}
	}
}

// R5, R6
func TestResultsAreNew(t *testing.T) {
	for _, l := range append(tables(random()), long(2000)) {
		spare := append(slices.Clone(l), row(1, 2, 3), row(4, 5, 6))
		for _, reduce := range []func([]api.Entry) ([]api.Entry, api.Errno){aggregate.Minimal, aggregate.Trim} {
			first, _ := reduce(spare[:len(l)])
			second, _ := reduce(l)
			if !slices.Equal(first, second) {
				t.Fatalf("two results for %v: %v, %v", l, first, second)
			}
			for i := range first {
				first[i] = row(7, 8, 9)
			}
			_ = append(first, row(7, 8, 9))
			if !slices.Equal(spare[:len(l)], l) || spare[len(l)] != row(1, 2, 3) || spare[len(l)+1] != row(4, 5, 6) {
				t.Fatalf("a call or its result changes %v", l)
			}
		}
	}
}
