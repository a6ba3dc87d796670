package cover_test

import (
	"math"
	"math/rand/v2"
	"slices"
	"testing"

	"routing/api"
	"routing/cover"
)

func pre(a api.Addr, n int) api.Prefix {
	return api.Prefix{Addr: a, Len: n}
}

// size returns the number of addresses of a prefix of length n.
func size(n int) uint64 {
	return 1 << (32 - n)
}

func isValid(p api.Prefix) bool {
	return p.Len >= 0 && p.Len <= 32 && uint64(p.Addr)%size(p.Len) == 0
}

func last(p api.Prefix) api.Addr {
	return api.Addr(uint64(p.Addr) + size(p.Len) - 1)
}

// has is the definition of an address of a list.
func has(l []api.Prefix, a api.Addr) bool {
	for _, p := range l {
		if isValid(p) && a >= p.Addr && a <= last(p) {
			return true
		}
	}
	return false
}

// isNormal is the definition of a normal list.
func isNormal(l []api.Prefix) bool {
	for i, p := range l {
		if !isValid(p) {
			return false
		}
		for _, q := range l[:i] {
			ascending := q.Addr < p.Addr || q.Addr == p.Addr && q.Len < p.Len
			share := has([]api.Prefix{p}, q.Addr) || has([]api.Prefix{q}, p.Addr)
			halves := p.Len == q.Len && uint64(q.Addr)%(2*size(q.Len)) == 0 && uint64(p.Addr) == uint64(q.Addr)+size(q.Len)
			if !ascending || share || halves {
				return false
			}
		}
	}
	return true
}

// points returns addresses such that two sets made of the prefixes of the lists are equal if they agree at all of these.
func points(lists ...[]api.Prefix) []api.Addr {
	r := []api.Addr{0, math.MaxUint32}
	for _, l := range lists {
		for _, p := range l {
			r = append(r, p.Addr-1, p.Addr, p.Addr+1)
			if isValid(p) {
				r = append(r, last(p)-1, last(p), last(p)+1)
			}
		}
	}
	return r
}

// expect reports a list that is not the normal one of the addresses for which want is true.
func expect(t *testing.T, what string, got []api.Prefix, at []api.Addr, want func(api.Addr) bool) {
	t.Helper()
	if !isNormal(got) {
		t.Fatalf("%s: %v is not normal", what, got)
	}
	for _, a := range append(points(got), at...) {
		if has(got, a) != want(a) {
			t.Fatalf("%s: %v has %x: %t", what, got, a, has(got, a))
		}
	}
}

func invalidPrefixes() []api.Prefix {
	l := []api.Prefix{pre(1, 0), pre(0x80000000, 0), pre(0x0a000001, 8), pre(0xffffffff, 31), pre(0x0a000004, 29)}
	for _, n := range []int{-1, -32, 33, 40, 64, 1<<32 + 8, math.MinInt, math.MaxInt} {
		l = append(l, pre(0, n), pre(0x0a000000, n), pre(0xffffffff, n))
	}
	return l
}

// spaces are prefixes whose eighths are used as the elements of small sets: a set is a byte, with bit i for eighth i.
func spaces() []api.Prefix {
	return []api.Prefix{pre(0, 0), pre(0, 29), pre(0xfffffff8, 29), pre(0x0a010200, 23), pre(0x7ffffff8, 29), pre(0x80000000, 1)}
}

// part is a prefix of at least an eighth of a space, with the set of its eighths.
type part struct {
	prefix api.Prefix
	set    int
}

func parts(space api.Prefix) []part {
	var l []part
	for d := range 4 {
		for i := range 1 << d {
			n := space.Len + d
			l = append(l, part{pre(space.Addr+api.Addr(uint64(i)*size(n)), n), (1<<(8>>d) - 1) << (i * (8 >> d))})
		}
	}
	return l
}

// normalOf returns the normal list of a set: the parts that lie in it, unless the part twice as large does, too.
func normalOf(space api.Prefix, set int) []api.Prefix {
	var l []api.Prefix
	all := parts(space)
	for i, p := range all {
		if p.set&^set == 0 && (i == 0 || all[(i-1)/2].set&^set != 0) {
			l = append(l, p.prefix)
		}
	}
	slices.SortFunc(l, func(p, q api.Prefix) int {
		if p.Addr < q.Addr {
			return -1
		}
		return 1
	})
	return l
}

func random() *rand.Rand {
	return rand.New(rand.NewPCG(5, 6))
}

// anyParts returns up to n parts of a space in any order, some of them more than once, among invalid prefixes, with their set.
func anyParts(r *rand.Rand, space api.Prefix, n int) ([]api.Prefix, int) {
	var l []api.Prefix
	set := 0
	all, bad := parts(space), invalidPrefixes()
	for range r.IntN(n + 1) {
		if r.IntN(4) == 0 {
			l = append(l, bad[r.IntN(len(bad))])
			continue
		}
		p := all[max(r.IntN(len(all)), r.IntN(len(all)))]
		l, set = append(l, p.prefix), set|p.set
	}
	return l, set
}

// anyList returns up to n prefixes near each other, of any lengths and in any order.
func anyList(r *rand.Rand, n int) []api.Prefix {
	var l []api.Prefix
	bad := invalidPrefixes()
	around := []api.Addr{0, 0x0a010203, 0x7fffffff, 0x80000000, 0xffffffff, api.Addr(r.Uint32())}
	for range r.IntN(n + 1) {
		if r.IntN(8) == 0 {
			l = append(l, bad[r.IntN(len(bad))])
			continue
		}
		n := max(r.IntN(33), r.IntN(33), 1)
		a := around[r.IntN(len(around))] ^ api.Addr(r.IntN(8)*int(size(n)))
		l = append(l, pre(api.Addr(uint64(a)/size(n)*size(n)), n))
	}
	return l
}

// P5.1
func TestNormal(t *testing.T) {
	l := []api.Prefix{pre(0x0a000100, 24), pre(0x0a000000, 24), pre(0x0a000007, 32)}
	if got := cover.Normal(l); !slices.Equal(got, []api.Prefix{pre(0x0a000000, 23)}) {
		t.Error("Normal of 10.0.1.0/24, 10.0.0.0/24, 10.0.0.7/32", got)
	}
	if len(cover.Normal(nil)) != 0 || len(cover.Normal([]api.Prefix{})) != 0 || len(cover.Normal(invalidPrefixes())) != 0 {
		t.Error("Normal of no address is not empty")
	}
	hosts := []api.Prefix{pre(0xffffffff, 32), pre(0, 32), pre(0xffffffff, 32), pre(0xfffffffe, 32)}
	if got := cover.Normal(hosts); !slices.Equal(got, []api.Prefix{pre(0, 32), pre(0xfffffffe, 31)}) {
		t.Error("Normal of addresses", got)
	}
	// 10.0.1.0/24 and 10.0.2.0/24 are neighbors, but not the halves of a prefix.
	apart := []api.Prefix{pre(0x0a000200, 24), pre(0x0a000100, 24)}
	if got := cover.Normal(apart); !slices.Equal(got, []api.Prefix{pre(0x0a000100, 24), pre(0x0a000200, 24)}) {
		t.Error("Normal of 10.0.2.0/24, 10.0.1.0/24", got)
	}
}

// P5.1
func TestNormalOfAnyList(t *testing.T) {
	r := random()
	for _, space := range spaces() {
		for range 2000 {
			l, set := anyParts(r, space, 12)
			if got := cover.Normal(l); !slices.Equal(got, normalOf(space, set)) {
				t.Fatalf("Normal(%v) = %v, want %v", l, got, normalOf(space, set))
			}
		}
	}
	for range 2000 {
		l := anyList(r, 20)
		expect(t, "Normal", cover.Normal(l), points(l), func(a api.Addr) bool { return has(l, a) })
	}
}

// P5.1: all lists of at most three of the parts of a space and of some invalid prefixes.
func TestIs(t *testing.T) {
	for _, space := range spaces() {
		few := slices.Clone(invalidPrefixes()[:6])
		for _, p := range parts(space) {
			few = append(few, p.prefix)
		}
		lists := [][]api.Prefix{nil, {}}
		for _, p := range few {
			lists = append(lists, []api.Prefix{p})
			for _, q := range few {
				lists = append(lists, []api.Prefix{p, q})
				for _, r := range few {
					lists = append(lists, []api.Prefix{p, q, r})
				}
			}
		}
		for _, l := range lists {
			if cover.Is(l) != isNormal(l) {
				t.Fatalf("Is(%v) = %t", l, cover.Is(l))
			}
		}
	}
	for _, p := range invalidPrefixes() {
		if cover.Is([]api.Prefix{p}) || cover.Is([]api.Prefix{pre(0, 32), p}) {
			t.Errorf("Is of a list with %v is true", p)
		}
	}
}

// P5.2: all pairs of sets.
func TestOperationsOnSets(t *testing.T) {
	for _, space := range spaces() {
		var lists [256][]api.Prefix
		for set := range lists {
			lists[set] = normalOf(space, set)
		}
		for a, l := range lists {
			for b, m := range lists {
				union, both, difference := cover.Union(l, m), cover.Intersect(l, m), cover.Subtract(l, m)
				if !slices.Equal(union, lists[a|b]) || !slices.Equal(both, lists[a&b]) || !slices.Equal(difference, lists[a&^b]) {
					t.Fatalf("%v and %v: union %v, intersection %v, difference %v", l, m, union, both, difference)
				}
			}
		}
	}
}

// P5.2
func TestOperationsOnAnyLists(t *testing.T) {
	r := random()
	for i := range 3000 {
		a, b := anyList(r, 12), anyList(r, 12)
		if i%10 == 0 {
			a = append(a, pre(0, 0))
		}
		if i%15 == 0 {
			b = append(b, pre(0, 0))
		}
		at := points(a, b)
		expect(t, "Union", cover.Union(a, b), at, func(x api.Addr) bool { return has(a, x) || has(b, x) })
		expect(t, "Intersect", cover.Intersect(a, b), at, func(x api.Addr) bool { return has(a, x) && has(b, x) })
		expect(t, "Subtract", cover.Subtract(a, b), at, func(x api.Addr) bool { return has(a, x) && !has(b, x) })
	}
}

// P5.2
func TestOperationsOnFewPrefixes(t *testing.T) {
	got := cover.Subtract([]api.Prefix{pre(0x0a000000, 30)}, []api.Prefix{pre(0x0a000001, 32)})
	if !slices.Equal(got, []api.Prefix{pre(0x0a000000, 32), pre(0x0a000002, 31)}) {
		t.Error("Subtract of 10.0.0.0/30 and 10.0.0.1/32", got)
	}
	all, host, bad := []api.Prefix{pre(0, 0)}, []api.Prefix{pre(0xffffffff, 32)}, []api.Prefix{pre(1, 0), pre(0, 33)}
	if got := cover.Subtract(all, host); len(got) != 32 || got[0] != pre(0, 1) || got[31] != pre(0xfffffffe, 32) {
		t.Error("all addresses but one", got)
	}
	if got := cover.Union(cover.Subtract(all, host), host); !slices.Equal(got, all) {
		t.Error("all addresses", got)
	}
	if len(cover.Union(bad, nil)) != 0 || len(cover.Intersect(all, bad)) != 0 || len(cover.Subtract(bad, bad)) != 0 {
		t.Error("invalid prefixes have addresses")
	}
	if !slices.Equal(cover.Subtract(all, bad), all) || !slices.Equal(cover.Union(bad, host), host) {
		t.Error("invalid prefixes are not ignored")
	}
}

// P5.3
func TestHas(t *testing.T) {
	r := random()
	for range 2000 {
		l := anyList(r, 12)
		for _, a := range points(l) {
			if cover.Has(l, a) != has(l, a) {
				t.Fatalf("Has(%v, %x) = %t", l, a, cover.Has(l, a))
			}
		}
	}
	for _, p := range invalidPrefixes() {
		if cover.Has([]api.Prefix{p}, p.Addr) || cover.Has([]api.Prefix{p}, 0) {
			t.Errorf("%v has an address", p)
		}
		if !cover.Has([]api.Prefix{p, pre(0, 0)}, p.Addr) {
			t.Errorf("behind %v, 0.0.0.0/0 has not all addresses", p)
		}
	}
	if cover.Has(nil, 0) {
		t.Error("an empty list has an address")
	}
}

// P5.3
func TestCount(t *testing.T) {
	for _, c := range []struct {
		l    []api.Prefix
		want uint64
	}{
		{nil, 0},
		{invalidPrefixes(), 0},
		{[]api.Prefix{pre(0, 0)}, 1 << 32},
		{[]api.Prefix{pre(0x80000000, 1), pre(0, 1), pre(0, 0), pre(5, 32)}, 1 << 32},
		{[]api.Prefix{pre(0x80000000, 1), pre(0, 1)}, 1 << 32},
		{[]api.Prefix{pre(7, 32), pre(7, 32), pre(9, 32)}, 2},
		{[]api.Prefix{pre(0x0a000080, 25), pre(0, 33), pre(0x0a000000, 24), pre(0x0a000000, 24)}, 256},
		{[]api.Prefix{pre(0x0a000001, 8), pre(0xffffffff, 32)}, 1},
	} {
		if n := cover.Count(c.l); n != c.want {
			t.Errorf("Count(%v) = %d, want %d", c.l, n, c.want)
		}
	}
	r := random()
	for _, space := range spaces() {
		for range 500 {
			l, set := anyParts(r, space, 10)
			want := uint64(0)
			for i := range 8 {
				want += uint64(set>>i&1) * size(space.Len+3)
			}
			if n := cover.Count(l); n != want {
				t.Fatalf("Count(%v) = %d, want %d", l, n, want)
			}
		}
	}
}

// P5.4
func TestRange(t *testing.T) {
	l, e := cover.Range(0x0a000001, 0x0a000006)
	want := []api.Prefix{pre(0x0a000001, 32), pre(0x0a000002, 31), pre(0x0a000004, 31), pre(0x0a000006, 32)}
	if !slices.Equal(l, want) || e != api.OK {
		t.Error("Range(10.0.0.1, 10.0.0.6)", l, e)
	}
	var ends []api.Addr
	for _, a := range []api.Addr{0, 0x0a010203, 0x7fffffff, 0xffffffff} {
		for d := range api.Addr(20) {
			ends = append(ends, a+d-10)
		}
	}
	for _, first := range ends {
		for _, end := range ends {
			l, e := cover.Range(first, end)
			if first > end {
				if len(l) != 0 || e != api.ErrOrder {
					t.Fatalf("Range(%x, %x) = %v, %v", first, end, l, e)
				}
				continue
			}
			if e != api.OK || len(l) > 62 {
				t.Fatalf("Range(%x, %x) = %v, %v", first, end, l, e)
			}
			expect(t, "Range", l, ends, func(a api.Addr) bool { return a >= first && a <= end })
		}
	}
}

// P5.4, P5.6
func TestLongRanges(t *testing.T) {
	if l, e := cover.Range(0, math.MaxUint32); !slices.Equal(l, []api.Prefix{pre(0, 0)}) || e != api.OK {
		t.Error("the range of all addresses", l, e)
	}
	if l, e := cover.Range(1, math.MaxUint32-1); len(l) != 62 || e != api.OK {
		t.Error("the longest list of a range", l, e)
	}
	if l, e := cover.Range(math.MaxUint32, 0); len(l) != 0 || e != api.ErrOrder {
		t.Error("a range whose ends are exchanged", l, e)
	}
	r := random()
	for range 2000 {
		first, end := api.Addr(r.Uint32()), api.Addr(r.Uint32())
		first, end = min(first, end), max(first, end)
		l, e := cover.Range(first, end)
		if e != api.OK || len(l) > 62 || cover.Count(l) != uint64(end)-uint64(first)+1 {
			t.Fatalf("Range(%x, %x) = %v, %v", first, end, l, e)
		}
		at := []api.Addr{first - 1, first, end, end + 1}
		expect(t, "Range", l, at, func(a api.Addr) bool { return a >= first && a <= end })
	}
}

// summary tries all prefixes that contain the first valid one, the longest first.
func summary(l []api.Prefix) (api.Prefix, bool) {
	for _, p := range l {
		if !isValid(p) {
			continue
		}
		for n := p.Len; ; n-- {
			q := pre(api.Addr(uint64(p.Addr)/size(n)*size(n)), n)
			outside := func(r api.Prefix) bool {
				return isValid(r) && (!has([]api.Prefix{q}, r.Addr) || !has([]api.Prefix{q}, last(r)))
			}
			if !slices.ContainsFunc(l, outside) {
				return q, true
			}
		}
	}
	return api.Prefix{}, false
}

// P5.5
func TestSummary(t *testing.T) {
	if p, ok := cover.Summary([]api.Prefix{pre(0x0a000000, 24), pre(0x0a000300, 24)}); p != pre(0x0a000000, 22) || !ok {
		t.Error("Summary of 10.0.0.0/24 and 10.0.3.0/24", p, ok)
	}
	lists := [][]api.Prefix{nil, {}, invalidPrefixes(), {pre(0, 0)}, {pre(0, 32), pre(0xffffffff, 32)}, {pre(0xffffffff, 32)}, {pre(0, 32)}}
	lists = append(lists, append(invalidPrefixes(), pre(0x0a010200, 23)), []api.Prefix{pre(0x0a010203, 32), pre(0x0a000000, 8), pre(0x0a010000, 16)})
	r := random()
	for range 2000 {
		lists = append(lists, anyList(r, 5))
		l, _ := anyParts(r, spaces()[r.IntN(len(spaces()))], 4)
		lists = append(lists, l)
	}
	for _, l := range lists {
		want, found := summary(l)
		if p, ok := cover.Summary(l); p != want || ok != found {
			t.Fatalf("Summary(%v) = %v, %t, want %v, %t", l, p, ok, want, found)
		}
	}
}

// P5.6
func TestConsequences(t *testing.T) {
	r := random()
	for i := range 300 {
		a, b := anyList(r, 10*i), anyList(r, 10*i)
		normal := cover.Normal(a)
		if !cover.Is(normal) || !slices.Equal(cover.Normal(normal), normal) {
			t.Fatalf("Normal changes the normal list %v", normal)
		}
		union, both, difference := cover.Union(a, b), cover.Intersect(a, b), cover.Subtract(a, b)
		if cover.Count(union)+cover.Count(both) != cover.Count(a)+cover.Count(b) {
			t.Fatalf("%v and %v: the numbers of addresses do not add up", a, b)
		}
		if len(cover.Intersect(difference, both)) != 0 || !slices.Equal(cover.Union(difference, both), normal) {
			t.Fatalf("%v and %v: difference %v, intersection %v", a, b, difference, both)
		}
	}
}

// P5.2: every second address and the others, and then all of them.
func TestLongLists(t *testing.T) {
	var even, odd []api.Prefix
	for i := range api.Addr(1 << 14) {
		even = append(even, pre(0x0a000000+2*i, 32))
		odd = append(odd, pre(0x0a000000+2*i+1, 32))
	}
	slices.Reverse(odd)
	if got := cover.Union(even, odd); !slices.Equal(got, []api.Prefix{pre(0x0a000000, 17)}) {
		t.Error("the union has", len(got), "prefixes")
	}
	if got := cover.Intersect(even, odd); len(got) != 0 {
		t.Error("the intersection has", len(got), "prefixes")
	}
	if got := cover.Subtract([]api.Prefix{pre(0x0a000000, 17)}, odd); !slices.Equal(got, even) {
		t.Error("the difference has", len(got), "prefixes")
	}
}

// R5
func TestArgumentsAreLeft(t *testing.T) {
	first := []api.Prefix{pre(9, 32), pre(0, 33), pre(8, 32), pre(4, 30), pre(9, 32), pre(77, 32), pre(78, 32)}
	second := []api.Prefix{pre(6, 32), pre(2, 31), pre(5, 31), pre(99, 32)}
	oldFirst, oldSecond := slices.Clone(first), slices.Clone(second)
	a, b := first[:5], second[:3]
	for _, l := range [][]api.Prefix{cover.Normal(a), cover.Union(a, b), cover.Intersect(a, b), cover.Subtract(a, b), cover.Subtract(b, a)} {
		for i := range l {
			l[i] = pre(0, 0)
		}
		_ = append(l, pre(0, 0))
	}
	cover.Is(a)
	cover.Has(a, 3)
	cover.Count(a)
	cover.Summary(a)
	normal := []api.Prefix{pre(4, 30)}
	cover.Normal(normal)[0] = pre(0, 0)
	cover.Union(normal, nil)[0] = pre(0, 0)
	if !slices.Equal(first, oldFirst) || !slices.Equal(second, oldSecond) || normal[0] != pre(4, 30) {
		t.Error("arguments were changed", first, second, normal)
	}
}
