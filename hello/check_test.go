package hello_test

import (
	"math"
	"math/rand/v2"
	"slices"
	"testing"

	"routing/api"
	"routing/hello"
)

// P26.1: each condition, and the error that is named first.
func TestCheck(t *testing.T) {
	kinds := []func(*api.Iface){
		func(i *api.Iface) { i.Kind = 0 },
		func(i *api.Iface) { i.Kind = 4 },
		func(i *api.Iface) { i.Kind = math.MinInt },
	}
	invalid := []func(*api.Iface){
		func(i *api.Iface) { i.Prefix.Len = -1 },
		func(i *api.Iface) { i.Prefix.Len = 33 },
		func(i *api.Iface) { i.Prefix.Addr = 0x0a000001 },
		func(i *api.Iface) { i.Prefix, i.Addr = api.Prefix{}, 0 },
		func(i *api.Iface) { i.Addr = 0 },
		func(i *api.Iface) { i.Addr = 0x0a000100 },
		func(i *api.Iface) { i.Addr = 0x09ffffff },
	}
	ranges := []func(*api.Iface){
		func(i *api.Iface) { i.Cost = 0 },
		func(i *api.Iface) { i.Cost = 65536 },
		func(i *api.Iface) { i.Priority = -1 },
		func(i *api.Iface) { i.Priority = 256 },
		func(i *api.Iface) { i.Hello = 0 },
		func(i *api.Iface) { i.Hello, i.Dead = 65536, 65536 },
		func(i *api.Iface) { i.Dead = 9 },
		func(i *api.Iface) { i.Dead = 65536 },
		func(i *api.Iface) { i.Hello, i.Dead = -5, -4 },
	}
	fine := []func(*api.Iface){
		func(i *api.Iface) {},
		func(i *api.Iface) { i.Kind = 3 },
		func(i *api.Iface) { i.Cost, i.Priority, i.Hello, i.Dead = 1, 0, 1, 1 },
		func(i *api.Iface) { i.Cost, i.Priority, i.Hello, i.Dead = 65535, 255, 65535, 65535 },
		func(i *api.Iface) { i.Dead = 10 },
		func(i *api.Iface) { i.Addr = 0x0a000000 },
		func(i *api.Iface) { i.Addr = 0x0a0000ff },
		func(i *api.Iface) { i.Prefix = api.Prefix{} },
		func(i *api.Iface) { i.Prefix = api.Prefix{Addr: i.Addr, Len: 32} },
		func(i *api.Iface) { i.Prefix, i.Addr = api.Prefix{Addr: 0x80000000, Len: 1}, math.MaxUint32 },
	}
	groups := []struct {
		e       api.Errno
		changes []func(*api.Iface)
	}{{api.ErrKind, kinds}, {api.ErrInvalid, invalid}, {api.ErrRange, ranges}, {api.OK, fine}}
	for a, g := range groups {
		for j, change := range g.changes {
			for b := a; b < len(groups); b++ {
				for k, other := range groups[b].changes {
					// A change that is fine may undo another one.
					if a == b && j != k || a < b && groups[b].e == api.OK && k > 0 {
						continue
					}
					i := plain(2)
					other(&i)
					change(&i)
					if e := hello.Check(i); e != g.e || e != checkError(i) {
						t.Errorf("changes %d of %v and %d of %v: %v", j, g.e, k, groups[b].e, e)
					}
				}
			}
		}
	}
}

// P26.1
func TestCheckAny(t *testing.T) {
	r := rand.New(rand.NewPCG(26, 1))
	found := map[api.Errno]int{}
	for range 50000 {
		i := plain(1 + r.IntN(3))
		for range r.IntN(3) {
			i = oddIface(r, i)
		}
		want := checkError(i)
		found[want]++
		if e := hello.Check(i); e != want {
			t.Fatalf("Check(%v): %v, not %v", i, e, want)
		}
	}
	if len(found) != 4 {
		t.Error("not all errors", found)
	}
}

// P26.2: any states.
func TestMake(t *testing.T) {
	r := rand.New(rand.NewPCG(26, 2))
	for range 10000 {
		s, router := oddState(r), pick(r, words...)
		var seen []uint32
		for _, n := range s.Neighbors {
			if n.State > 0 {
				seen = append(seen, n.Router)
			}
		}
		p := hello.Make(s, router)
		h, c := p.Hello, s.Conf
		if p.Kind != 1 || p.Router != router || p.Area != c.Area || p.Addr != c.Addr || p.Seq != 0 || p.Init || p.More || p.Master || len(p.Headers)+len(p.Keys)+len(p.LSAs) > 0 {
			t.Fatalf("Make(%v, %d) = %v", s, router, p)
		}
		if h.Len != c.Prefix.Len || h.Hello != c.Hello || h.Dead != c.Dead || h.Priority != c.Priority || h.DR != s.DR || h.BDR != s.BDR || !slices.Equal(h.Seen, seen) {
			t.Fatalf("Make(%v, %d) has the hello %v", s, router, h)
		}
	}
}

// P26.2: neighbors that are down are not listed, all others are.
func TestMakeStates(t *testing.T) {
	var l []api.Neighbor
	for i := range 9 {
		l = append(l, api.Neighbor{Router: uint32(20 - i), State: i - 1})
	}
	if seen := hello.Make(up(2, l...), 1).Hello.Seen; !slices.Equal(seen, []uint32{18, 17, 16, 15, 14, 13, 12}) {
		t.Error("seen are", seen)
	}
}

// P26.4: any states and times.
func TestExpire(t *testing.T) {
	r := rand.New(rand.NewPCG(26, 4))
	for range 10000 {
		s := oddState(r)
		now := pick(r, 99, 100, 101, pick(r, wrong...), r.IntN(200))
		want := s
		want.Neighbors = nil
		for _, n := range s.Neighbors {
			if now < n.Until {
				want.Neighbors = append(want.Neighbors, n)
			}
		}
		if got := hello.Expire(s, now); !equal(got, want) {
			t.Fatalf("Expire(%v, %d) = %v", s, now, got)
		}
	}
}

// P26.5, example 2: all combinations.
func TestWants(t *testing.T) {
	few := []uint32{0, 1, 2, 3}
	for _, kind := range []int{math.MinInt, 0, 1, 2, 3, 4} {
		for state := range 9 {
			for bits := range 512 {
				s := up(kind)
				s.Up = bits&1 == 0
				s.DR, s.BDR = few[bits>>1&3], few[bits>>3&3]
				router, n := few[bits>>5&3], api.Neighbor{Router: few[bits>>7&3], State: state - 1}
				roles := 0
				for _, role := range []uint32{s.DR, s.BDR} {
					for _, one := range []uint32{router, n.Router} {
						if one == role && role > 0 {
							roles++
						}
					}
				}
				want := s.Up && n.State >= 2 && (kind == 1 || kind == 2 && roles > 0)
				if is := hello.Wants(s, router, n); is != want {
					t.Fatalf("Wants(%v, %d, %v) = %v", s, router, n, is)
				}
			}
		}
	}
}

// P26.6: any states.
func TestFindWith(t *testing.T) {
	r := rand.New(rand.NewPCG(26, 6))
	for range 20000 {
		s := oddState(r)
		n := anyNeighbor(r, pick(r, append(words, 5, 6, 7)...))
		if len(s.Neighbors) > 0 && r.IntN(2) == 0 {
			n.Router = s.Neighbors[r.IntN(len(s.Neighbors))].Router
		}
		if got := hello.With(s, n); !equal(got, placed(s, n)) {
			t.Fatalf("With(%v, %v) = %v", s, n, got)
		}
		var want api.Neighbor
		known := false
		for _, m := range s.Neighbors {
			if m.Router == n.Router && !known {
				want, known = m, true
			}
		}
		got, is := hello.Find(s, n.Router)
		if is != known || !equal(up(2, got), up(2, want)) {
			t.Fatalf("Find(%v, %d) = %v, %v", s, n.Router, got, is)
		}
	}
}

// P26.6: lists without order, and routers that occur twice.
func TestWithCases(t *testing.T) {
	for i, x := range []struct {
		routers []uint32
		router  uint32
		want    []uint32
		at      int
	}{
		{nil, 4, []uint32{4}, 0},
		{[]uint32{2, 6}, 4, []uint32{2, 4, 6}, 1},
		{[]uint32{2, 6}, 1, []uint32{1, 2, 6}, 0},
		{[]uint32{2, 6}, 7, []uint32{2, 6, 7}, 2},
		{[]uint32{2, 4, 6}, 4, []uint32{2, 4, 6}, 1},
		{[]uint32{6, 2, 5}, 4, []uint32{4, 6, 2, 5}, 0},
		{[]uint32{6, 2, 4}, 4, []uint32{6, 2, 4}, 2},
		{[]uint32{2, 4, 4}, 4, []uint32{2, 4, 4}, 1},
		{[]uint32{3, 2, 9, 1}, 5, []uint32{3, 2, 5, 9, 1}, 2},
		{[]uint32{1, 0}, 0, []uint32{1, 0}, 1},
	} {
		s := up(2)
		for _, router := range x.routers {
			s.Neighbors = append(s.Neighbors, api.Neighbor{Router: router, Seq: 1})
		}
		got := hello.With(s, api.Neighbor{Router: x.router, Seq: 2})
		for j, n := range got.Neighbors {
			if len(got.Neighbors) != len(x.want) || n.Router != x.want[j] || (n.Seq == 2) != (j == x.at) {
				t.Errorf("case %d: %v", i, got.Neighbors)
				break
			}
		}
		if n, ok := hello.Find(got, x.router); !ok || n.Seq != 2 {
			t.Errorf("case %d: found %v, %v", i, n, ok)
		}
	}
}
