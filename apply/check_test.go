package apply_test

import (
	"math"
	"math/rand/v2"
	"slices"
	"testing"

	"routing/api"
	"routing/apply"
)

// plain is a valid subject.
func plain() api.Subject {
	return api.Subject{
		Prefix: api.Prefix{Addr: 0x0a010000, Len: 16}, Protocol: api.ProtoEBGP, NextHop: 0x0a000009, Path: []int{65001, 65002},
		Communities: []uint32{65000<<16 + 7, api.NoExport}, Pref: 100, MED: 9, Metric: 5, Tag: 3,
	}
}

// with returns a valid subject after some changes.
func with(changes ...func(s *api.Subject)) api.Subject {
	s := plain()
	for _, change := range changes {
		change(&s)
	}
	return s
}

// ascending returns so many communities.
func ascending(n int) []uint32 {
	var l []uint32
	for i := range n {
		l = append(l, uint32(3*i))
	}
	return l
}

func agreeCheck(t *testing.T, what string, s api.Subject, want api.Errno) {
	t.Helper()
	if e := apply.Check(s); e != want || checked(s) != want {
		t.Errorf("%s: %v instead of %v (%v)", what, e, want, checked(s))
	}
}

// P21.1: the ranges of all fields.
func TestCheck(t *testing.T) {
	agreeCheck(t, "plain", plain(), api.OK)
	agreeCheck(t, "nothing but a protocol", api.Subject{Protocol: 1}, api.OK)
	agreeCheck(t, "nothing", api.Subject{}, api.ErrRange)
	limited := map[string]struct {
		low, high int
		set       func(s *api.Subject, n int)
	}{
		"Protocol": {1, 7, func(s *api.Subject, n int) { s.Protocol = n }},
		"Path":     {1, maxNumber, func(s *api.Subject, n int) { s.Path[1] = n }},
		"Pref":     {0, maxNumber, func(s *api.Subject, n int) { s.Pref = n }},
		"MED":      {0, maxNumber, func(s *api.Subject, n int) { s.MED = n }},
		"Metric":   {0, maxCost, func(s *api.Subject, n int) { s.Metric = n }},
		"Tag":      {0, maxNumber, func(s *api.Subject, n int) { s.Tag = n }},
	}
	for what, x := range limited {
		for _, n := range []int{math.MinInt, -1 << 32, -1, x.low - 1, x.low, x.low + 1, x.high - 1, x.high, x.high + 1, 1<<32 + x.low, math.MaxInt} {
			want := api.ErrRange
			if n >= x.low && n <= x.high {
				want = api.OK
			}
			agreeCheck(t, what, with(func(s *api.Subject) { x.set(s, n) }), want)
		}
	}
	for _, p := range []api.Prefix{{Addr: 1}, {Len: 33}, {Len: -1}, {Addr: 0x0a010000, Len: 15}, {Len: math.MinInt}, {Len: math.MaxInt}} {
		agreeCheck(t, "Prefix", with(func(s *api.Subject) { s.Prefix = p }), api.ErrInvalid)
	}
	for _, p := range []api.Prefix{{}, {Len: 32}, {Addr: math.MaxUint32, Len: 32}} {
		agreeCheck(t, "Prefix", with(func(s *api.Subject) { s.Prefix = p }), api.OK)
	}
	for _, hop := range []api.Addr{0, 1, math.MaxUint32} {
		agreeCheck(t, "NextHop", with(func(s *api.Subject) { s.NextHop = hop }), api.OK)
	}
	for n, want := range map[int]api.Errno{0: api.OK, 1: api.OK, 2000: api.OK, 2001: api.ErrTooLong, 5000: api.ErrTooLong} {
		agreeCheck(t, "the length of Path", with(func(s *api.Subject) { s.Path = slices.Repeat([]int{1}, n) }), want)
	}
	for n, want := range map[int]api.Errno{0: api.OK, 1: api.OK, 255: api.OK, 256: api.ErrTooLong} {
		agreeCheck(t, "the number of Communities", with(func(s *api.Subject) { s.Communities = ascending(n) }), want)
	}
	for _, l := range [][]uint32{{1, 1}, {2, 1}, {1, 2, 2}, {math.MaxUint32, 0}} {
		agreeCheck(t, "Communities", with(func(s *api.Subject) { s.Communities = l }), api.ErrOrder)
	}
	agreeCheck(t, "empty lists", with(func(s *api.Subject) { s.Path, s.Communities = []int{}, []uint32{} }), api.OK)
}

// P21.1: of two errors, the one named first.
func TestCheckOrder(t *testing.T) {
	faults := []struct {
		e      api.Errno
		damage func(s *api.Subject)
	}{
		{api.ErrInvalid, func(s *api.Subject) { s.Prefix.Addr++ }},
		{api.ErrRange, func(s *api.Subject) { s.Protocol = 0 }},
		{api.ErrTooLong, func(s *api.Subject) { s.Path = append(s.Path, make([]int, 2000)...) }},
		{api.ErrRange, func(s *api.Subject) { s.Path = append([]int{0}, s.Path...) }},
		{api.ErrTooLong, func(s *api.Subject) { s.Communities = append(s.Communities, make([]uint32, 255)...) }},
		{api.ErrOrder, func(s *api.Subject) { s.Communities = append(s.Communities, 0) }},
		{api.ErrRange, func(s *api.Subject) { s.Pref = -1 }},
		{api.ErrRange, func(s *api.Subject) { s.MED = -1 }},
		{api.ErrRange, func(s *api.Subject) { s.Metric = maxCost + 1 }},
		{api.ErrRange, func(s *api.Subject) { s.Tag = -1 }},
	}
	for i, first := range faults {
		for _, second := range faults[i:] {
			agreeCheck(t, "two errors", with(first.damage, second.damage), first.e)
			agreeCheck(t, "two errors", with(second.damage, first.damage), first.e)
		}
	}
}

// P21.1
func TestCheckAny(t *testing.T) {
	r := rand.New(rand.NewPCG(21, 1))
	errors := map[api.Errno]int{}
	for range 20000 {
		s := anySubject(r)
		if checked(s) != api.OK {
			t.Fatalf("%+v is not valid", s)
		}
		for range r.IntN(3) {
			s = damagedSubject(r, s)
		}
		if e := apply.Check(s); e != checked(s) {
			t.Fatalf("Check(%+v) = %v instead of %v", s, e, checked(s))
		}
		errors[checked(s)]++
	}
	for _, e := range []api.Errno{api.OK, api.ErrInvalid, api.ErrRange, api.ErrTooLong, api.ErrOrder} {
		if errors[e] < 300 {
			t.Error("only", errors[e], "subjects with", e)
		}
	}
}

// P21.6: one field differs.
func TestSame(t *testing.T) {
	subjects := []api.Subject{
		plain(), {}, with(func(s *api.Subject) { s.Prefix.Addr++ }), with(func(s *api.Subject) { s.Prefix.Len = math.MinInt }), with(func(s *api.Subject) { s.Protocol = -6 }),
		with(func(s *api.Subject) { s.NextHop++ }), with(func(s *api.Subject) { s.Path[0]++ }), with(func(s *api.Subject) { s.Path[1] += 1 << 32 }), with(func(s *api.Subject) { s.Path = nil }), with(func(s *api.Subject) { s.Path = s.Path[:1] }),
		with(func(s *api.Subject) { s.Path = []int{65002, 65001} }), with(func(s *api.Subject) { s.Path = append(s.Path, 0) }), with(func(s *api.Subject) { s.Communities[1]-- }), with(func(s *api.Subject) { s.Communities = nil }),
		with(func(s *api.Subject) { slices.Reverse(s.Communities) }), with(func(s *api.Subject) { s.Communities = append(s.Communities, 0) }), with(func(s *api.Subject) { s.Pref = -1 }), with(func(s *api.Subject) { s.MED++ }),
		with(func(s *api.Subject) { s.Metric = math.MaxInt }), with(func(s *api.Subject) { s.Tag++ }), with(func(s *api.Subject) { s.Tag += 1 << 32 }),
	}
	for i, a := range subjects {
		for j, b := range subjects {
			if same := apply.Same(a, copied(b)); same != (i == j) || equal(a, b) != same {
				t.Errorf("Same of the subjects %d and %d: %v", i, j, same)
			}
		}
	}
	if !apply.Same(api.Subject{Path: []int{}, Communities: []uint32{}}, api.Subject{}) || !apply.Same(api.Subject{}, api.Subject{Path: []int{}, Communities: []uint32{}}) {
		t.Error("empty lists")
	}
}

// P21.6
func TestSameAny(t *testing.T) {
	r := rand.New(rand.NewPCG(21, 6))
	same := 0
	for range 10000 {
		a := anySubject(r)
		b := a
		if r.IntN(2) == 0 {
			b = damagedSubject(r, a)
		}
		if r.IntN(3) == 0 {
			a = damagedSubject(r, a)
		}
		if apply.Same(a, b) != equal(a, b) || apply.Same(b, a) != equal(a, b) {
			t.Fatalf("Same(%+v, %+v) = %v", a, b, apply.Same(a, b))
		}
		if equal(a, b) {
			same++
		}
	}
	if same < 2000 || same > 8000 {
		t.Error(same, "pairs are the same")
	}
}
