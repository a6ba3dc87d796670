package lsa_test

import (
	"math"
	"math/rand/v2"
	"slices"
	"testing"

	"routing/api"
	"routing/lsa"
)

// anyValues returns a header with any values, often equal or close to limits.
func anyValues(r *rand.Rand) api.LSAHeader {
	ages := []int{math.MinInt, math.MinInt + 899, math.MinInt + 901, -1, 0, 1, 100, 900, 901, 999, 1000, 1001, 2699, 2700, 3599, 3600, 3601, 4500, 4501, math.MaxInt - 901, math.MaxInt - 900, math.MaxInt}
	return api.LSAHeader{
		Type: pick(r, 1, 2, math.MinInt, math.MaxInt), ID: pick(r, words...), Len: pick(r, 0, 1, math.MinInt, math.MaxInt), Router: pick(r, words...),
		Seq: pick(r, 4, 4, 4, 4, 3, math.MinInt, math.MaxInt), Sum: pick(r, 5, 5, 5, 5, 6, math.MinInt, math.MaxInt), Age: pick(r, ages...),
	}
}

// P23.2
func TestKey(t *testing.T) {
	r := rand.New(rand.NewPCG(23, 2))
	for range 1000 {
		h := anyValues(r)
		k := lsa.Key(h)
		if k.Type != h.Type || k.ID != h.ID || k.Len != h.Len || k.Router != h.Router {
			t.Fatal(h, k)
		}
	}
	if k := lsa.Key(api.LSAHeader{Seq: 1, Age: 2, Sum: 3}); k != (api.LSAKey{}) {
		t.Error("the key has something else", k)
	}
}

// P23.2: the order is by Type, ID, Len and Router, for any numbers.
func TestCompareKeys(t *testing.T) {
	ints := []int{math.MinInt, -1, 0, 1, math.MaxInt}
	numbers := []uint32{0, 1, math.MaxUint32}
	var sorted []api.LSAKey
	for _, kind := range ints {
		for _, id := range numbers {
			for _, n := range ints {
				for _, router := range numbers {
					sorted = append(sorted, api.LSAKey{Type: kind, ID: id, Len: n, Router: router})
				}
			}
		}
	}
	for i, a := range sorted {
		for j, b := range sorted {
			want := slices.Compare([]int{i}, []int{j})
			if c := lsa.CompareKeys(a, b); c != want {
				t.Fatalf("CompareKeys(%v, %v) = %d, not %d", a, b, c, want)
			}
		}
	}
}

// P23.3, examples 2 and 3: each step of the comparison.
func TestCompare(t *testing.T) {
	for _, x := range []struct {
		a, b api.LSAHeader
		want int
	}{
		{api.LSAHeader{Seq: 4}, api.LSAHeader{Seq: 3, Sum: 65535, Age: maxAge}, 1},
		{api.LSAHeader{Seq: 4, Age: maxAge}, api.LSAHeader{Seq: 3, Sum: 9}, 1},
		{api.LSAHeader{Seq: 4, Sum: 9}, api.LSAHeader{Seq: 4, Sum: 8, Age: maxAge}, 1},
		{api.LSAHeader{Seq: 4, Sum: 9, Age: 2000}, api.LSAHeader{Seq: 4, Sum: 8}, 1},
		{api.LSAHeader{Age: maxAge}, api.LSAHeader{Age: maxAge - 1}, 1},
		{api.LSAHeader{Age: maxAge}, api.LSAHeader{}, 1},
		{api.LSAHeader{Age: maxAge}, api.LSAHeader{Age: maxAge}, 0},
		{api.LSAHeader{Age: maxAge}, api.LSAHeader{Age: maxAge + 1}, 1},
		{api.LSAHeader{Age: maxAge + 1}, api.LSAHeader{Age: maxAge + 2}, 0},
		{api.LSAHeader{Age: 100}, api.LSAHeader{Age: 1100}, 1},
		{api.LSAHeader{Age: 100}, api.LSAHeader{Age: 1001}, 1},
		{api.LSAHeader{Age: 100}, api.LSAHeader{Age: 1000}, 0},
		{api.LSAHeader{Age: 0}, api.LSAHeader{Age: 900}, 0},
		{api.LSAHeader{Age: 0}, api.LSAHeader{Age: 901}, 1},
		{api.LSAHeader{Age: math.MinInt}, api.LSAHeader{Age: math.MaxInt}, 1},
		{api.LSAHeader{Age: -1}, api.LSAHeader{Age: math.MaxInt}, 1},
		{api.LSAHeader{Age: math.MinInt}, api.LSAHeader{Age: math.MinInt + 900}, 0},
		// Keys are not compared.
		{api.LSAHeader{Type: 1, ID: 2, Len: 3, Router: 4}, api.LSAHeader{}, 0},
		{api.LSAHeader{Type: 1, ID: 2, Len: 3, Router: 4}, api.LSAHeader{Seq: 1}, -1},
	} {
		if c := lsa.Compare(x.a, x.b); c != x.want {
			t.Errorf("Compare(%v, %v) = %d, not %d", x.a, x.b, c, x.want)
		}
		if c := lsa.Compare(x.b, x.a); c != -x.want {
			t.Errorf("Compare(%v, %v) = %d, not %d", x.b, x.a, c, -x.want)
		}
	}
}

// P23.3, P23.9: any headers.
func TestCompareAny(t *testing.T) {
	r := rand.New(rand.NewPCG(23, 3))
	found := map[int]int{}
	for range 100000 {
		a, b := anyValues(r), anyValues(r)
		want := newer(a, b)
		found[want]++
		if c := lsa.Compare(a, b); c != want {
			t.Fatalf("Compare(%v, %v) = %d, not %d", a, b, c, want)
		}
		if c := lsa.Compare(b, a); c != -want {
			t.Fatalf("Compare(%v, %v) = %d, not %d", b, a, c, -want)
		}
		if lsa.Compare(a, a) != 0 {
			t.Fatalf("%v is not the same as itself", a)
		}
		if a.Seq > b.Seq && lsa.Compare(a, b) != 1 {
			t.Fatalf("a greater Seq loses: %v, %v", a, b)
		}
	}
	if len(found) != 3 || found[0] < 1000 {
		t.Error("too few kinds of pairs", found)
	}
}

// P23.7
func TestPrefix(t *testing.T) {
	r := rand.New(rand.NewPCG(23, 7))
	for range 5000 {
		l := anyLSA(r)
		want, ok := api.Prefix{}, l.Header.Type != 1 && l.Header.Type != 4
		if ok {
			size := uint64(1) << (32 - l.Header.Len)
			want = api.Prefix{Addr: api.Addr(uint64(l.Header.ID) / size * size), Len: l.Header.Len}
		}
		if p, is := lsa.Prefix(l); p != want || is != ok {
			t.Fatalf("Prefix(%v) = %v, %v, not %v, %v", l, p, is, want, ok)
		}
	}
	l := plain(2)
	l.Header.ID, l.Header.Len = 0x0a0b0c0d, 20
	if p, ok := lsa.Prefix(l); p != (api.Prefix{Addr: 0x0a0b0000, Len: 20}) || !ok {
		t.Error("the prefix of a network", p, ok)
	}
	for _, kind := range []int{math.MinInt, -1, 0, 1, 4, 6, math.MaxInt} {
		l.Header.Type = kind
		if p, ok := lsa.Prefix(l); p != (api.Prefix{}) || ok {
			t.Errorf("type %d has the prefix %v", kind, p)
		}
	}
	for _, n := range wrong {
		l.Header.Type, l.Header.Len = 2, n
		if p, ok := lsa.Prefix(l); !ok && p != (api.Prefix{}) {
			t.Errorf("length %d: no prefix, but %v", n, p)
		}
	}
}

// P23.7: each field but Seq, Age and Sum counts.
func TestSameBody(t *testing.T) {
	base := api.LSA{Header: head(1), Links: links(2), Attached: []uint32{3, 4}, Cost: 5, Tag: 6}
	for i, change := range []func(*api.LSA){
		func(l *api.LSA) { l.Header.Seq = 9 },
		func(l *api.LSA) { l.Header.Age = 9 },
		func(l *api.LSA) { l.Header.Sum = 9 },
		func(l *api.LSA) { l.Links, l.Attached = slices.Clone(l.Links), slices.Clone(l.Attached) },
		func(l *api.LSA) { l.Header.Type = 9 },
		func(l *api.LSA) { l.Header.ID = 9 },
		func(l *api.LSA) { l.Header.Len = 9 },
		func(l *api.LSA) { l.Header.Router = 9 },
		func(l *api.LSA) { l.Border = true },
		func(l *api.LSA) { l.Boundary = true },
		func(l *api.LSA) { l.Links = links(3) },
		func(l *api.LSA) { l.Links = nil },
		func(l *api.LSA) { l.Links = links(2); l.Links[1].Kind = 9 },
		func(l *api.LSA) { l.Links = links(2); l.Links[1].ID = 9 },
		func(l *api.LSA) { l.Links = links(2); l.Links[1].Data = 9 },
		func(l *api.LSA) { l.Links = links(2); l.Links[0].Cost = 9 },
		func(l *api.LSA) { l.Attached = []uint32{3} },
		func(l *api.LSA) { l.Attached = []uint32{3, 5} },
		func(l *api.LSA) { l.Attached = []uint32{4, 3} },
		func(l *api.LSA) { l.Cost = 9 },
		func(l *api.LSA) { l.Second = true },
		func(l *api.LSA) { l.Forward = 9 },
		func(l *api.LSA) { l.Tag = 9 },
	} {
		l := base
		change(&l)
		if is := lsa.SameBody(base, l); is != (i < 4) {
			t.Errorf("change %d: %v", i, is)
		}
		if lsa.SameBody(base, l) != lsa.SameBody(l, base) {
			t.Errorf("change %d: not symmetric", i)
		}
	}
	if !lsa.SameBody(api.LSA{}, api.LSA{Links: []api.LSLink{}, Attached: []uint32{}}) {
		t.Error("a list that is nil and one that is empty")
	}
}

// P23.7: any advertisements.
func TestSameBodyAny(t *testing.T) {
	r := rand.New(rand.NewPCG(23, 8))
	equals := 0
	for range 20000 {
		a := anyLSA(r)
		b := damaged(r, a)
		if r.IntN(3) == 0 {
			b = damaged(r, b)
		}
		want := same(a, b)
		if want {
			equals++
		}
		if is := lsa.SameBody(a, b); is != want {
			t.Fatalf("SameBody(%v, %v) = %v", a, b, is)
		}
	}
	if equals < 500 {
		t.Error("only", equals, "pairs with the same body")
	}
}
