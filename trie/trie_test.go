package trie_test

import (
	"math"
	"math/rand/v2"
	"slices"
	"testing"

	"routing/api"
	"routing/trie"
)

func pre(a api.Addr, n int) api.Prefix {
	return api.Prefix{Addr: a, Len: n}
}

func row(a api.Addr, n, value int) api.Entry {
	return api.Entry{Prefix: pre(a, n), Value: value}
}

// size returns the number of addresses of a prefix of length n.
func size(n int) uint64 {
	return 1 << (32 - n)
}

func isValid(p api.Prefix) bool {
	return p.Len >= 0 && p.Len <= 32 && uint64(p.Addr)%size(p.Len) == 0
}

// covers is the definition for valid prefixes by arithmetic.
func covers(p, q api.Prefix) bool {
	end := uint64(p.Addr) + size(p.Len)
	return q.Addr >= p.Addr && uint64(q.Addr)+size(q.Len) <= end
}

// table is a trie by definition.
type table map[api.Prefix]int

// entries returns the entries that take accepts, ascending.
func (m table) entries(take func(api.Prefix) bool) []api.Entry {
	var l []api.Entry
	for p, value := range m {
		if take(p) {
			l = append(l, api.Entry{Prefix: p, Value: value})
		}
	}
	slices.SortFunc(l, func(x, y api.Entry) int {
		p, q := x.Prefix, y.Prefix
		if p.Addr < q.Addr || p.Addr == q.Addr && p.Len < q.Len {
			return -1
		}
		return 1
	})
	return l
}

func (m table) all() []api.Entry {
	return m.entries(func(api.Prefix) bool { return true })
}

// above needs no order by length: a prefix that covers p and is longer does not begin earlier.
func (m table) above(p api.Prefix) []api.Entry {
	return m.entries(func(q api.Prefix) bool { return isValid(p) && covers(q, p) })
}

func (m table) under(p api.Prefix) []api.Entry {
	return m.entries(func(q api.Prefix) bool { return isValid(p) && covers(p, q) })
}

func (m table) lookup(a api.Addr) (api.Entry, bool) {
	l := m.above(pre(a, 32))
	if len(l) == 0 {
		return api.Entry{}, false
	}
	return l[len(l)-1], true
}

// compare checks all results of t against m, for the prefixes of l and their ends.
func compare(t *testing.T, x *trie.Trie, m table, l []api.Prefix) {
	t.Helper()
	if got := x.All(); !slices.Equal(got, m.all()) || x.Len() != len(m) {
		t.Fatalf("All() = %v, Len() = %d, want %v", got, x.Len(), m.all())
	}
	for _, p := range l {
		compareAt(t, x, m, p)
	}
}

func compareAt(t *testing.T, x *trie.Trie, m table, p api.Prefix) {
	t.Helper()
	value, found := m[p]
	if got, ok := x.Get(p); got != value || ok != found {
		t.Fatalf("of %v: Get(%v) = %d, %t", m.all(), p, got, ok)
	}
	if got := x.Above(p); !slices.Equal(got, m.above(p)) {
		t.Fatalf("of %v: Above(%v) = %v, want %v", m.all(), p, got, m.above(p))
	}
	if got := x.Under(p); !slices.Equal(got, m.under(p)) {
		t.Fatalf("of %v: Under(%v) = %v, want %v", m.all(), p, got, m.under(p))
	}
	for _, a := range []api.Addr{p.Addr, p.Addr - 1, p.Addr + 1, p.Addr | 0xff, p.Addr ^ 0x80000000} {
		want, found := m.lookup(a)
		if got, ok := x.Lookup(a); got != want || ok != found {
			t.Fatalf("of %v: Lookup(%x) = %v, %t", m.all(), a, got, ok)
		}
	}
}

func invalidPrefixes() []api.Prefix {
	l := []api.Prefix{pre(1, 0), pre(0x80000000, 0), pre(0x0a000001, 8), pre(0x0a010203, 23), pre(0xffffffff, 31)}
	for _, n := range []int{-1, -32, 33, 40, 64, 1<<32 + 8, math.MinInt, math.MaxInt} {
		l = append(l, pre(0, n), pre(0x0a000000, n), pre(0xffffffff, n))
	}
	return l
}

// nested returns the prefixes of up to four lengths from n on near an address, which lie in each other or side by side.
func nested(a api.Addr, n int) []api.Prefix {
	var l []api.Prefix
	for d := range min(4, 33-n) {
		for i := range api.Addr(1) << d {
			begin := uint64(a) / size(n) * size(n)
			l = append(l, pre(api.Addr(begin+uint64(i)*size(n+d)), n+d))
		}
	}
	return l
}

// pools are lists of prefixes from which tries are filled.
func pools() [][]api.Prefix {
	l := [][]api.Prefix{nested(0, 0), nested(0, 29), nested(0xffffffff, 29), nested(0x0a010203, 22), nested(0x80000000, 1)}
	var chain []api.Prefix
	for n := range 33 {
		chain = append(chain, pre(api.Addr(uint64(0x0a8102ff)/size(n)*size(n)), n))
	}
	zeros := make([]api.Prefix, 33)
	for n := range zeros {
		zeros[n] = pre(0, n)
	}
	mixed := slices.Concat(nested(0x0a010203, 20), chain[5:], nested(0xffffffff, 30), zeros[:3], nested(0x0a010203, 30))
	return append(l, chain, zeros, mixed)
}

func random() *rand.Rand {
	return rand.New(rand.NewPCG(6, 8))
}

func of(t *testing.T, l ...api.Entry) *trie.Trie {
	t.Helper()
	x, e := trie.Of(l...)
	if x == nil || e != api.OK {
		t.Fatalf("Of(%v): %v", l, e)
	}
	return x
}

// P6.1
func TestNew(t *testing.T) {
	x, y := trie.New(), trie.New()
	if x == nil || y == nil {
		t.Fatal("New returns nil")
	}
	compare(t, x, table{}, append(invalidPrefixes(), nested(0, 0)...))
	x.Put(pre(0, 0), 1)
	if y.Len() != 0 || x.Len() != 1 {
		t.Error("two new tries are not independent")
	}
}

// P6.1
func TestOf(t *testing.T) {
	compare(t, of(t), table{}, nested(0, 0))
	l := []api.Entry{row(0x0a000000, 8, 1), row(0x0a010000, 16, 2), row(0x0a000000, 8, 3), row(0, 0, 0), row(0x0a010000, 16, -4), row(0x0a000000, 8, 5)}
	before := slices.Clone(l)
	x := of(t, l...)
	compare(t, x, table{pre(0, 0): 0, pre(0x0a000000, 8): 5, pre(0x0a010000, 16): -4}, nested(0x0a010203, 15))
	if !slices.Equal(l, before) {
		t.Error("Of changed its arguments")
	}
	l[0] = row(0, 32, 9)
	if x.Len() != 3 {
		t.Error("Of kept its arguments")
	}
}

// P6.1
func TestOfInvalidPrefixes(t *testing.T) {
	for _, p := range invalidPrefixes() {
		for _, l := range [][]api.Entry{{{Prefix: p}}, {row(0, 0, 1), {Prefix: p, Value: 2}}, {{Prefix: p, Value: 2}, row(0, 0, 1)}} {
			if x, e := trie.Of(l...); x != nil || e != api.ErrInvalid {
				t.Errorf("Of(%v) = %v, %v", l, x, e)
			}
		}
	}
}

// P6.2, P6.3, P6.4, P6.5: the example of the chapter.
func TestExample(t *testing.T) {
	short, long := row(0x0a000000, 8, 1), row(0x0a010000, 16, 2)
	x := of(t, short, long)
	if e, ok := x.Lookup(0x0a010203); e != long || !ok {
		t.Error("Lookup(10.1.2.3)", e, ok)
	}
	if e, ok := x.Lookup(0x0a020000); e != short || !ok {
		t.Error("Lookup(10.2.0.0)", e, ok)
	}
	if e, ok := x.Lookup(0x0b000000); e != (api.Entry{}) || ok {
		t.Error("Lookup(11.0.0.0)", e, ok)
	}
	if l := x.Under(pre(0x0a000000, 8)); !slices.Equal(l, []api.Entry{short, long}) {
		t.Error("Under(10.0.0.0/8)", l)
	}
	if l := x.Above(pre(0x0a010000, 16)); !slices.Equal(l, []api.Entry{short, long}) {
		t.Error("Above(10.1.0.0/16)", l)
	}
	if l := x.Above(pre(0x0a010000, 15)); len(l) != 0 {
		t.Error("Above of a prefix that is not valid", l)
	}
	if l := x.Above(pre(0x0a000000, 15)); !slices.Equal(l, []api.Entry{short}) {
		t.Error("Above(10.0.0.0/15)", l)
	}
	if l := x.Under(pre(0x0a000000, 15)); !slices.Equal(l, []api.Entry{long}) {
		t.Error("Under(10.0.0.0/15)", l)
	}
	if l := x.Above(pre(0, 0)); len(l) != 0 {
		t.Error("Above(0.0.0.0/0)", l)
	}
	if l := x.Under(pre(0x0a010203, 32)); len(l) != 0 {
		t.Error("Under(10.1.2.3/32)", l)
	}
}

// P6.2
func TestPut(t *testing.T) {
	x := trie.New()
	for _, value := range []int{7, -7, 0, math.MaxInt, math.MinInt} {
		isNew, e := x.Put(pre(0x0a000000, 8), value)
		if isNew != (value == 7) || e != api.OK {
			t.Errorf("Put of %d: %t, %v", value, isNew, e)
		}
		if got, ok := x.Get(pre(0x0a000000, 8)); got != value || !ok || x.Len() != 1 {
			t.Errorf("after Put of %d: Get is %d, %t, Len is %d", value, got, ok, x.Len())
		}
	}
	// 0.0.0.0/0 is where these two part, but has no entry until it is put.
	y := of(t, row(0, 1, 1), row(0x80000000, 1, 2))
	if isNew, e := y.Put(pre(0, 0), 3); !isNew || e != api.OK || y.Len() != 3 {
		t.Error("Put of 0.0.0.0/0", isNew, e)
	}
}

// P6.2
func TestInvalidPrefixes(t *testing.T) {
	x := of(t, row(0, 0, 1), row(0x0a000000, 8, 2), row(0, 32, 3))
	before := x.All()
	for _, p := range invalidPrefixes() {
		if isNew, e := x.Put(p, 5); isNew || e != api.ErrInvalid {
			t.Errorf("Put of %v: %t, %v", p, isNew, e)
		}
		if x.Drop(p) {
			t.Errorf("Drop(%v) is true", p)
		}
		if value, ok := x.Get(p); value != 0 || ok {
			t.Errorf("Get(%v) = %d, %t", p, value, ok)
		}
		if above, under := x.Above(p), x.Under(p); len(above) != 0 || len(under) != 0 {
			t.Errorf("Above(%v) = %v, Under = %v", p, above, under)
		}
	}
	if !slices.Equal(x.All(), before) || x.Len() != 3 {
		t.Error("invalid prefixes changed the trie", x.All())
	}
}

// P6.2
func TestDrop(t *testing.T) {
	x := of(t, row(0, 1, 1), row(0x80000000, 1, 2))
	if x.Drop(pre(0, 0)) || x.Drop(pre(0, 2)) || x.Len() != 2 {
		t.Error("Drop of a prefix without an entry")
	}
	m := table{pre(0x80000000, 1): 2}
	if !x.Drop(pre(0, 1)) || x.Drop(pre(0, 1)) {
		t.Error("Drop(0.0.0.0/1)")
	}
	compare(t, x, m, nested(0, 0))
	if isNew, _ := x.Put(pre(0, 1), 4); !isNew {
		t.Error("Put after Drop replaces an entry")
	}
	if !x.Drop(pre(0x80000000, 1)) || !x.Drop(pre(0, 1)) {
		t.Error("Drop of all entries")
	}
	compare(t, x, table{}, nested(0, 0))
}

// P6.2 to P6.5: all sets of the prefixes of three lengths, filled and emptied in two orders.
func TestAllSets(t *testing.T) {
	for _, pool := range [][]api.Prefix{nested(0, 0)[:7], nested(0xffffffff, 30), nested(0x0a010203, 23)[:7]} {
		for set := range 1 << len(pool) {
			x, m := trie.New(), table{}
			for i, p := range pool {
				if set>>i&1 == 1 {
					x.Put(p, i)
					m[p] = i
				}
			}
			compare(t, x, m, pool)
			for i := range pool {
				p := pool[i*3%len(pool)]
				_, found := m[p]
				if x.Drop(p) != found {
					t.Fatalf("of %v: Drop(%v) is %t", m.all(), p, !found)
				}
				delete(m, p)
				compare(t, x, m, pool)
			}
		}
	}
}

// P6.2 to P6.5, P6.7
func TestAnyCalls(t *testing.T) {
	r := random()
	for _, pool := range pools() {
		x, m := trie.New(), table{}
		for i := range 1500 {
			p := pool[r.IntN(len(pool))]
			_, found := m[p]
			// Filling and emptying take turns.
			if r.IntN(10) < 2+i/100%2*6 {
				if x.Drop(p) != found {
					t.Fatalf("of %v: Drop(%v) is %t", m.all(), p, !found)
				}
				delete(m, p)
			} else {
				value := r.IntN(9) - 4
				if isNew, e := x.Put(p, value); isNew == found || e != api.OK {
					t.Fatalf("of %v: Put of %v is %t, %v", m.all(), p, isNew, e)
				}
				m[p] = value
			}
			compareAt(t, x, m, pool[r.IntN(len(pool))])
			if i%50 == 0 {
				compare(t, x, m, pool)
			}
		}
	}
}

// P6.3, P6.4
func TestChain(t *testing.T) {
	x := trie.New()
	for n := 32; n >= 0; n-- {
		x.Put(pre(api.Addr(uint64(0xaaaaaaaa)/size(n)*size(n)), n), 100+n)
	}
	host := pre(0xaaaaaaaa, 32)
	above := x.Above(host)
	if len(above) != 33 || len(x.Under(pre(0, 0))) != 33 || x.Len() != 33 {
		t.Fatal("a chain of all lengths", len(above), x.Len())
	}
	for n, e := range above {
		if e.Prefix.Len != n || e.Value != 100+n {
			t.Errorf("entry %d above is %v", n, e)
		}
	}
	for n := 32; n >= 0; n-- {
		if e, ok := x.Lookup(0xaaaaaaaa); !ok || e.Value != 100+n {
			t.Errorf("Lookup with lengths to %d: %v, %t", n, e, ok)
		}
		x.Drop(above[n].Prefix)
	}
	if e, ok := x.Lookup(0xaaaaaaaa); ok || e != (api.Entry{}) {
		t.Error("Lookup in the empty trie", e, ok)
	}
}

// P6.5: many entries come in ascending order, whatever the order in which they were put.
func TestAll(t *testing.T) {
	r := random()
	x, m := trie.New(), table{}
	var l []api.Prefix
	for range 20000 {
		n := r.IntN(33)
		p := pre(api.Addr(uint64(r.Uint32())/size(n)*size(n)), n)
		x.Put(p, n)
		m[p] = n
		l = append(l, p)
	}
	compare(t, x, m, l[:20])
	for i, p := range l {
		_, found := m[p]
		if x.Drop(p) != found {
			t.Fatalf("Drop(%v) is %t", p, !found)
		}
		delete(m, p)
		if i%5000 == 0 {
			compare(t, x, m, l[:20])
		}
	}
	compare(t, x, table{}, l[:20])
}

// P6.6
func TestNil(t *testing.T) {
	var x *trie.Trie
	for _, p := range append(invalidPrefixes(), nested(0, 0)...) {
		if isNew, e := x.Put(p, 1); isNew || e != api.OK {
			t.Errorf("Put of %v: %t, %v", p, isNew, e)
		}
		if x.Drop(p) {
			t.Errorf("Drop(%v) is true", p)
		}
		if value, ok := x.Get(p); value != 0 || ok {
			t.Errorf("Get(%v) = %d, %t", p, value, ok)
		}
		if e, ok := x.Lookup(p.Addr); e != (api.Entry{}) || ok {
			t.Errorf("Lookup(%x) = %v, %t", p.Addr, e, ok)
		}
		if len(x.Above(p)) != 0 || len(x.Under(p)) != 0 {
			t.Errorf("there are entries above or under %v", p)
		}
	}
	if len(x.All()) != 0 || x.Len() != 0 {
		t.Error("a nil trie has entries")
	}
}

// P6.7
func TestLongestMatch(t *testing.T) {
	r := random()
	for _, pool := range pools() {
		for range 100 {
			x := trie.New()
			for _, p := range pool {
				if r.IntN(2) == 0 {
					x.Put(p, r.IntN(100))
				}
			}
			for _, p := range pool {
				a := p.Addr ^ api.Addr(r.IntN(3))
				e, ok := x.Lookup(a)
				above := x.Above(pre(a, 32))
				if ok != (len(above) > 0) || ok && e != above[len(above)-1] || !ok && e != (api.Entry{}) {
					t.Fatalf("Lookup(%x) = %v, %t, Above is %v", a, e, ok, above)
				}
			}
		}
	}
}

// P6.8: all orders of five prefixes, three of which lie where others part.
func TestOrder(t *testing.T) {
	l := []api.Entry{row(0x0a000000, 8, 1), row(0x0a000000, 9, 2), row(0x0a000000, 10, 3), row(0x0a400000, 10, 4), row(0x0a800000, 9, 5)}
	m := table{}
	var asked []api.Prefix
	for _, e := range l {
		m[e.Prefix] = e.Value
		asked = append(asked, e.Prefix)
	}
	var extend func(chosen []api.Entry)
	extend = func(chosen []api.Entry) {
		if len(chosen) == len(l) {
			x, rest := of(t, chosen...), table{}
			compare(t, x, m, asked)
			for _, e := range l[1:] {
				rest[e.Prefix] = e.Value
			}
			x.Drop(l[0].Prefix)
			compare(t, x, rest, asked)
			return
		}
		for _, e := range l {
			if !slices.Contains(chosen, e) {
				extend(append(slices.Clone(chosen), e))
			}
		}
	}
	extend(nil)
}

// P6.8
func TestOrderOfManyPrefixes(t *testing.T) {
	r := random()
	for _, pool := range pools() {
		var l []api.Entry
		m := table{}
		for i, p := range pool {
			if _, found := m[p]; !found {
				l = append(l, api.Entry{Prefix: p, Value: i})
				m[p] = i
			}
		}
		for range 20 {
			r.Shuffle(len(l), func(i, j int) { l[i], l[j] = l[j], l[i] })
			compare(t, of(t, l...), m, pool)
		}
	}
}

// R5
func TestResultsAreNew(t *testing.T) {
	x := of(t, row(0, 0, 1), row(0x0a000000, 8, 2), row(0x0a010000, 16, 3))
	want := x.All()
	for _, l := range [][]api.Entry{x.All(), x.Above(pre(0x0a010000, 16)), x.Under(pre(0, 0))} {
		for i := range l {
			l[i] = row(0, 32, 99)
		}
		_ = append(l, row(0, 32, 99))
	}
	if !slices.Equal(x.All(), want) || !slices.Equal(x.Above(pre(0x0a010000, 16)), want) {
		t.Error("changing results changes the trie", x.All())
	}
}
