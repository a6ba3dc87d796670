package apply_test

import (
	"math"
	"math/rand/v2"
	"slices"
	"testing"

	"routing/api"
	"routing/apply"
)

// P21.3: each kind of action, and its limits.
func TestAct(t *testing.T) {
	for _, c := range []struct {
		a      api.Action
		change func(s *api.Subject)
	}{
		{api.Action{Kind: api.SetPref, N: 7}, func(s *api.Subject) { s.Pref = 7 }}, {api.Action{Kind: api.SetPref}, func(s *api.Subject) { s.Pref = 0 }}, {api.Action{Kind: api.SetPref, N: maxNumber}, func(s *api.Subject) { s.Pref = maxNumber }},
		{api.Action{Kind: api.SetMED, N: 7}, func(s *api.Subject) { s.MED = 7 }}, {api.Action{Kind: api.SetMED}, func(s *api.Subject) { s.MED = 0 }}, {api.Action{Kind: api.SetMED, N: maxNumber}, func(s *api.Subject) { s.MED = maxNumber }},
		{api.Action{Kind: api.SetMetric, N: 7}, func(s *api.Subject) { s.Metric = 7 }}, {api.Action{Kind: api.SetMetric}, func(s *api.Subject) { s.Metric = 0 }}, {api.Action{Kind: api.SetMetric, N: maxCost}, func(s *api.Subject) { s.Metric = maxCost }},
		{api.Action{Kind: api.SetTag, N: 7}, func(s *api.Subject) { s.Tag = 7 }}, {api.Action{Kind: api.SetTag}, func(s *api.Subject) { s.Tag = 0 }}, {api.Action{Kind: api.SetTag, N: maxNumber}, func(s *api.Subject) { s.Tag = maxNumber }},
		{api.Action{Kind: api.SetNextHop, Addr: 1}, func(s *api.Subject) { s.NextHop = 1 }}, {api.Action{Kind: api.SetNextHop, Addr: math.MaxUint32}, func(s *api.Subject) { s.NextHop = math.MaxUint32 }},
		{api.Action{Kind: api.AddCommunity, Community: 5}, func(s *api.Subject) { s.Communities = append([]uint32{5}, s.Communities...) }}, {api.Action{Kind: api.AddCommunity}, func(s *api.Subject) { s.Communities = append([]uint32{0}, s.Communities...) }},
		{api.Action{Kind: api.AddCommunity, Community: api.NoExport}, func(s *api.Subject) {}}, {api.Action{Kind: api.AddCommunity, Community: math.MaxUint32}, func(s *api.Subject) { s.Communities = append(s.Communities, math.MaxUint32) }},
		{api.Action{Kind: api.DeleteCommunity, Community: api.NoExport}, func(s *api.Subject) { s.Communities = s.Communities[:1] }}, {api.Action{Kind: api.DeleteCommunity}, func(s *api.Subject) {}},
		{api.Action{Kind: api.Prepend, AS: 9, N: 1}, func(s *api.Subject) { s.Path = []int{9, 65001, 65002} }}, {api.Action{Kind: api.Prepend, AS: maxNumber, N: 3}, func(s *api.Subject) { s.Path = []int{maxNumber, maxNumber, maxNumber, 65001, 65002} }},
		{api.Action{Kind: api.Prepend, AS: 9, N: 16}, func(s *api.Subject) { s.Path = append(slices.Repeat([]int{9}, 16), s.Path...) }},
		// Not valid, each field and each limit.
		{api.Action{}, func(s *api.Subject) {}}, {api.Action{Kind: 9, N: 1}, func(s *api.Subject) {}}, {api.Action{Kind: -1}, func(s *api.Subject) {}}, {api.Action{Kind: math.MinInt}, func(s *api.Subject) {}}, {api.Action{Kind: math.MaxInt}, func(s *api.Subject) {}},
		{api.Action{Kind: api.SetPref, N: -1}, func(s *api.Subject) {}}, {api.Action{Kind: api.SetPref, N: maxNumber + 1}, func(s *api.Subject) {}}, {api.Action{Kind: api.SetPref, N: 7, AS: 1}, func(s *api.Subject) {}}, {api.Action{Kind: api.SetPref, N: 7, Addr: 1}, func(s *api.Subject) {}}, {api.Action{Kind: api.SetPref, N: 7, Community: 1}, func(s *api.Subject) {}},
		{api.Action{Kind: api.SetMED, N: -1}, func(s *api.Subject) {}}, {api.Action{Kind: api.SetMED, N: maxNumber + 1}, func(s *api.Subject) {}}, {api.Action{Kind: api.SetMED, N: 7, AS: 1}, func(s *api.Subject) {}},
		{api.Action{Kind: api.SetMetric, N: -1}, func(s *api.Subject) {}}, {api.Action{Kind: api.SetMetric, N: maxCost + 1}, func(s *api.Subject) {}}, {api.Action{Kind: api.SetMetric, N: 7, Addr: 1}, func(s *api.Subject) {}},
		{api.Action{Kind: api.SetTag, N: -1}, func(s *api.Subject) {}}, {api.Action{Kind: api.SetTag, N: maxNumber + 1}, func(s *api.Subject) {}}, {api.Action{Kind: api.SetTag, N: 7, Community: 1}, func(s *api.Subject) {}},
		{api.Action{Kind: api.SetNextHop}, func(s *api.Subject) {}}, {api.Action{Kind: api.SetNextHop, Addr: 1, N: 1}, func(s *api.Subject) {}},
		{api.Action{Kind: api.AddCommunity, Community: 5, N: 1}, func(s *api.Subject) {}}, {api.Action{Kind: api.DeleteCommunity, Community: api.NoExport, AS: 1}, func(s *api.Subject) {}},
		{api.Action{Kind: api.Prepend, AS: 9}, func(s *api.Subject) {}}, {api.Action{Kind: api.Prepend, N: 1}, func(s *api.Subject) {}}, {api.Action{Kind: api.Prepend, AS: 9, N: 17}, func(s *api.Subject) {}}, {api.Action{Kind: api.Prepend, AS: 9, N: -1}, func(s *api.Subject) {}},
		{api.Action{Kind: api.Prepend, AS: maxNumber + 1, N: 1}, func(s *api.Subject) {}}, {api.Action{Kind: api.Prepend, AS: -1, N: 1}, func(s *api.Subject) {}}, {api.Action{Kind: api.Prepend, AS: 9, N: 1, Addr: 1}, func(s *api.Subject) {}}, {api.Action{Kind: api.Prepend, AS: 9, N: math.MaxInt}, func(s *api.Subject) {}},
	} {
		want := with(c.change)
		if s := apply.Act([]api.Action{c.a}, plain()); !equal(s, want) || !equal(acted([]api.Action{c.a}, plain()), want) {
			t.Errorf("Act(%+v) = %+v instead of %+v", c.a, s, want)
		}
	}
}

// P21.3: a path that becomes too long, and a list of communities that has no room.
func TestActFull(t *testing.T) {
	for _, c := range []struct{ length, n, want int }{
		{1999, 1, 2000}, {2000, 1, 2000}, {1984, 16, 2000}, {1985, 16, 1985}, {1985, 15, 2000}, {0, 16, 16}, {2001, 1, 2001}, {5000, 16, 5000},
	} {
		long := slices.Repeat([]int{7}, c.length)
		s := apply.Act([]api.Action{{Kind: api.Prepend, AS: 9, N: c.n}, {Kind: api.SetTag, N: 1}}, api.Subject{Path: long})
		if want := append(slices.Repeat([]int{9}, c.want-c.length), long...); !slices.Equal(s.Path, want) || s.Tag != 1 {
			t.Errorf("%d numbers before %d ones: %d", c.n, c.length, len(s.Path))
		}
	}
	// A path that has no room for many numbers can have room for fewer ones.
	s := apply.Act([]api.Action{{Kind: api.Prepend, AS: 9, N: 16}, {Kind: api.Prepend, AS: 8, N: 2}, {Kind: api.Prepend, AS: 7, N: 1}}, api.Subject{Path: slices.Repeat([]int{1}, 1998)})
	if len(s.Path) != 2000 || s.Path[0] != 8 || s.Path[2] != 1 {
		t.Error("the path has", len(s.Path), "numbers")
	}
	for n, want := range map[int]int{254: 255, 255: 255} {
		s := apply.Act([]api.Action{{Kind: api.AddCommunity, Community: 1}}, api.Subject{Communities: ascending(n)})
		if len(s.Communities) != want {
			t.Error(len(s.Communities), "communities instead of", want)
		}
	}
	s = apply.Act([]api.Action{{Kind: api.AddCommunity, Community: 1}, {Kind: api.DeleteCommunity, Community: 0}, {Kind: api.AddCommunity, Community: 2}}, api.Subject{Communities: ascending(255)})
	if len(s.Communities) != 255 || s.Communities[0] != 2 {
		t.Error("a community in the place of another one:", s.Communities)
	}
}

// P21.3: the actions take effect in order, however many there are.
func TestActOrder(t *testing.T) {
	actions := []api.Action{{Kind: api.SetTag, N: 1}, {Kind: api.SetTag, N: 2}, {Kind: api.Prepend, AS: 1, N: 1}, {Kind: api.Prepend, AS: 2, N: 2}, {Kind: api.AddCommunity, Community: 9}, {Kind: api.DeleteCommunity, Community: 9}, {Kind: api.DeleteCommunity, Community: 8}, {Kind: api.AddCommunity, Community: 8}}
	s := apply.Act(actions, api.Subject{})
	if !equal(s, api.Subject{Tag: 2, Path: []int{2, 2, 1}, Communities: []uint32{8}}) {
		t.Errorf("%+v", s)
	}
	if s := apply.Act(nil, plain()); !equal(s, plain()) {
		t.Errorf("no actions: %+v", s)
	}
	many := slices.Repeat([]api.Action{{Kind: api.Prepend, AS: 5, N: 1}, {}}, 300)
	if s := apply.Act(append(many, api.Action{Kind: api.SetPref, N: 4}), plain()); len(s.Path) != 302 || s.Pref != 4 {
		t.Errorf("many actions: %+v", s)
	}
}

// P21.3: all subjects, valid or not.
func TestActAny(t *testing.T) {
	r := rand.New(rand.NewPCG(21, 3))
	changed := 0
	for range 10000 {
		s := anySubject(r)
		for range r.IntN(2) {
			s = damagedSubject(r, s)
		}
		actions := several(r, 6, func(r *rand.Rand) api.Action {
			if r.IntN(3) == 0 {
				return damagedAction(r, anyAction(r))
			}
			return anyAction(r)
		})
		got, want := apply.Act(actions, s), acted(actions, s)
		if !equal(got, want) {
			t.Fatalf("Act(%+v, %+v) = %+v instead of %+v", actions, s, got, want)
		}
		if !equal(got, s) {
			changed++
		}
	}
	if changed < 5000 {
		t.Error("only", changed, "subjects changed")
	}
}
