package community_test

import (
	"math"
	"math/rand/v2"
	"slices"
	"testing"

	"routing/api"
	"routing/community"
)

// P18.1
func TestCheck(t *testing.T) {
	descending := count(1, 256, 1)
	slices.Reverse(descending)
	for i, c := range []struct {
		l    []uint32
		want api.Errno
	}{
		{nil, api.OK}, {[]uint32{}, api.OK}, {[]uint32{0}, api.OK}, {[]uint32{math.MaxUint32}, api.OK}, {[]uint32{0, 1, math.MaxUint32}, api.OK}, {[]uint32{1, 1 << 31}, api.OK}, {count(0, 255, 1), api.OK}, {count(0, 255, 1<<24), api.OK},
		{count(0, 256, 1), api.ErrTooLong}, {count(0, 1000, 1), api.ErrTooLong}, {make([]uint32, 256), api.ErrTooLong}, {descending, api.ErrTooLong},
		{[]uint32{1, 1}, api.ErrOrder}, {[]uint32{2, 1}, api.ErrOrder}, {[]uint32{0, 0}, api.ErrOrder}, {[]uint32{1, 2, 2}, api.ErrOrder}, {[]uint32{1, 3, 2}, api.ErrOrder}, {[]uint32{2, 1, 3}, api.ErrOrder}, {[]uint32{1 << 31, 1}, api.ErrOrder}, {[]uint32{math.MaxUint32, 0}, api.ErrOrder}, {descending[1:], api.ErrOrder}, {make([]uint32, 255), api.ErrOrder},
	} {
		if e := community.Check(c.l); e != c.want || checked(c.l) != c.want {
			t.Errorf("case %d: %v instead of %v", i, e, c.want)
		}
	}
}

// P18.3
func TestHas(t *testing.T) {
	l := []uint32{9, 3, math.MaxUint32, 3, 0, 65536, 1 << 31}
	for _, c := range append(count(0, 20, 1), math.MaxUint32, math.MaxUint32-1, 65535, 65536, 65537, 1<<31, 1<<31+9) {
		if community.Has(l, c) != elements(l)[c] || community.Has(nil, c) {
			t.Errorf("Has %d: %v", c, community.Has(l, c))
		}
	}
	if ascending := count(0, 255, 2); !community.Has(ascending, 0) || !community.Has(ascending, 508) || !community.Has(ascending, 254) || community.Has(ascending, 255) || community.Has(ascending, 510) {
		t.Error("Has of an ascending list")
	}
	if l := count(0, 1000, 1); !community.Has(l, 999) {
		t.Error("Has of a long list")
	}
}

// P18.4
func TestAdd(t *testing.T) {
	full, over := count(0, 255, 2), count(0, 300, 2)
	twice := append(count(0, 254, 2), count(0, 254, 2)...)
	for i, c := range []struct {
		l    []uint32
		c    uint32
		want []uint32
	}{
		{nil, 5, []uint32{5}}, {nil, 0, []uint32{0}}, {[]uint32{3, 9}, 5, []uint32{3, 5, 9}}, {[]uint32{3, 9}, 1, []uint32{1, 3, 9}}, {[]uint32{3, 9}, 10, []uint32{3, 9, 10}}, {[]uint32{3, 9}, 9, []uint32{3, 9}}, {[]uint32{9, 3, 9}, 5, []uint32{3, 5, 9}}, {[]uint32{9, 3, 9}, 3, []uint32{3, 9}},
		{[]uint32{1}, math.MaxUint32, []uint32{1, math.MaxUint32}}, {[]uint32{1 << 31}, 1, []uint32{1, 1 << 31}},
		{full[:254], 1, append([]uint32{0, 1}, full[1:254]...)}, {full, 1, full}, {full, 1000, full}, {full, 508, full}, {full, 0, full}, {over, 1, over}, {over, 1000, over}, {over, 598, over}, {over, 0, over},
		{twice, 1, append([]uint32{0, 1}, full[1:254]...)}, {append(twice, 508), 1, full}, {append(twice, 508, 1000), 1, append(full, 1000)}, {make([]uint32, 300), 7, []uint32{0, 7}},
	} {
		if l := community.Add(c.l, c.c); !slices.Equal(l, c.want) || !slices.Equal(l, added(c.l, c.c)) {
			t.Errorf("case %d: Add(.., %d) = %v", i, c.c, l)
		}
	}
}

// P18.4
func TestDrop(t *testing.T) {
	over := count(0, 300, 2)
	for i, c := range []struct {
		l    []uint32
		c    uint32
		want []uint32
	}{
		{nil, 5, nil}, {[]uint32{5}, 5, nil}, {[]uint32{5, 5, 5}, 5, nil}, {[]uint32{3, 5, 9}, 5, []uint32{3, 9}}, {[]uint32{3, 5, 9}, 3, []uint32{5, 9}}, {[]uint32{3, 5, 9}, 9, []uint32{3, 5}}, {[]uint32{3, 5, 9}, 4, []uint32{3, 5, 9}},
		{[]uint32{9, 5, 3, 5, 9}, 5, []uint32{3, 9}}, {[]uint32{9, 5, 3, 5, 9}, 4, []uint32{3, 5, 9}}, {[]uint32{0, math.MaxUint32}, 0, []uint32{math.MaxUint32}}, {[]uint32{math.MaxUint32, 0}, math.MaxUint32, []uint32{0}},
		{over, 0, over[1:]}, {over, 1, over}, {over, 598, over[:299]}, {append(over, over...), 0, over[1:]},
	} {
		if l := community.Drop(c.l, c.c); !slices.Equal(l, c.want) || !slices.Equal(l, dropped(c.l, c.c)) {
			t.Errorf("case %d: Drop(.., %d) = %v", i, c.c, l)
		}
	}
}

// P18.4
func TestJoin(t *testing.T) {
	full := count(0, 255, 2)
	for i, c := range []struct{ a, b, want []uint32 }{
		{nil, nil, nil}, {[]uint32{5}, nil, []uint32{5}}, {nil, []uint32{5}, []uint32{5}}, {[]uint32{3, 9}, []uint32{5}, []uint32{3, 5, 9}}, {[]uint32{3, 9}, []uint32{3, 9}, []uint32{3, 9}}, {[]uint32{9, 3, 9}, []uint32{4, 3, 4}, []uint32{3, 4, 9}}, {[]uint32{2, 1, 1}, nil, []uint32{1, 2}}, {nil, []uint32{2, 1, 1}, []uint32{1, 2}},
		{[]uint32{math.MaxUint32}, []uint32{0, 1 << 31}, []uint32{0, 1 << 31, math.MaxUint32}}, {full, full, full}, {full, nil, full}, {nil, full, full}, {full, []uint32{1000}, full}, {[]uint32{1000}, full, full},
		{full, []uint32{1}, append([]uint32{0, 1}, full[1:254]...)}, {[]uint32{1}, full, append([]uint32{0, 1}, full[1:254]...)}, {full, count(1, 255, 2), count(0, 255, 1)}, {count(255, 255, 1), count(0, 255, 1), count(0, 255, 1)}, {count(0, 100, 1), count(100, 155, 1), count(0, 255, 1)}, {count(0, 100, 1), count(100, 156, 1), count(0, 255, 1)},
		{count(0, 300, 1), nil, count(0, 255, 1)}, {nil, count(0, 300, 1), count(0, 255, 1)}, {make([]uint32, 300), []uint32{7}, []uint32{0, 7}},
	} {
		if l := community.Join(c.a, c.b); !slices.Equal(l, c.want) || !slices.Equal(l, joined(c.a, c.b)) {
			t.Errorf("case %d: Join = %v", i, l)
		}
	}
}

// P18.1, P18.3, P18.4, P18.7
func TestAnyLists(t *testing.T) {
	r := rand.New(rand.NewPCG(18, 4))
	for range 20000 {
		a, b, c := anyList(r), anyList(r), anyCommunity(r)
		if len(a) > 0 && r.IntN(2) == 0 {
			c = a[r.IntN(len(a))]
		}
		if r.IntN(3) == 0 {
			a = ascending(elements(a))
		}
		if community.Check(a) != checked(a) || community.Has(a, c) != elements(a)[c] {
			t.Fatalf("%v: %v, Has %d: %v", a, community.Check(a), c, community.Has(a, c))
		}
		if l := community.Add(a, c); !slices.Equal(l, added(a, c)) {
			t.Fatalf("Add(%v, %d) = %v", a, c, l)
		}
		if l := community.Drop(a, c); !slices.Equal(l, dropped(a, c)) {
			t.Fatalf("Drop(%v, %d) = %v", a, c, l)
		}
		if l := community.Join(a, b); !slices.Equal(l, joined(a, b)) {
			t.Fatalf("Join(%v, %v) = %v", a, b, l)
		}
		agreeSets(t, a, b, anyList(r), c)
	}
}

// agreeSets fails unless the consequences for sets hold.
func agreeSets(t *testing.T, a, b, d []uint32, c uint32) {
	t.Helper()
	if community.Check(a) == api.OK && len(a) < maxElements {
		more := community.Add(a, c)
		if !community.Has(more, c) || community.Check(more) != api.OK || community.Has(community.Drop(a, c), c) || !slices.Equal(community.Drop(more, c), community.Drop(a, c)) {
			t.Fatalf("Add(%v, %d) = %v, Drop of it %v", a, c, more, community.Drop(more, c))
		}
	}
	if len(elements(a, b, d)) > maxElements {
		return
	}
	if !slices.Equal(community.Join(a, b), community.Join(b, a)) {
		t.Fatalf("Join of %v and %v depends on their order", a, b)
	}
	if !slices.Equal(community.Join(community.Join(a, b), d), community.Join(a, community.Join(b, d))) {
		t.Fatalf("Join of %v, %v and %v depends on their order", a, b, d)
	}
}

// R5: calls do not change the elements of lists or what lies behind them, and share no memory with their results.
func TestMemory(t *testing.T) {
	r := rand.New(rand.NewPCG(18, 5))
	roomy := func(l []uint32) []uint32 { return append(slices.Clone(l), 1, 0, 1)[:len(l)] }
	whole := func(l []uint32) []uint32 { return slices.Clone(l[:cap(l)]) }
	for range 2000 {
		a, b, c := roomy(anyList(r)), roomy(anyList(r)), anyCommunity(r)
		if r.IntN(2) == 0 {
			a = roomy(ascending(elements(a)))
		}
		beforeA, beforeB := whole(a), whole(b)
		calls := []func() []uint32{
			func() []uint32 { return community.Add(a, c) },
			func() []uint32 { return community.Drop(a, c) },
			func() []uint32 { return community.Join(a, b) },
			func() []uint32 { return community.Join(a, nil) },
			func() []uint32 { return community.Join(nil, b) },
			func() []uint32 { return community.Join(a, a) },
			func() []uint32 {
				rules := []api.CommunityRule{{High: 9, Low: 9}}
				return []uint32{uint32(community.Check(a)), uint32(len(community.Text(c))), uint32(len(elements(a))), uint32(map[bool]int{true: 1}[community.Has(a, c) || community.Permits(rules, a)])}
			},
		}
		for i, call := range calls {
			result := call()
			want := slices.Clone(result)
			for j := range result[:cap(result)] {
				result[:cap(result)][j] = 0xdead
			}
			if !slices.Equal(whole(a), beforeA) || !slices.Equal(whole(b), beforeB) || !slices.Equal(call(), want) {
				t.Fatalf("call %d changes %v or %v", i, a, b)
			}
		}
	}
}
