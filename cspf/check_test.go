package cspf_test

import (
	"math"
	"math/rand/v2"
	"slices"
	"testing"

	"routing/api"
	"routing/cspf"
)

// input are the arguments of Check.
type input struct {
	n     int
	links []api.TELink
	c     api.Constraint
}

// valid returns arguments that Check accepts.
func valid() input {
	in := input{n: 5, c: api.Constraint{Bandwidth: 3, Setup: 4, Hold: 2, MaxHops: 2, Avoid: []int{4}, Through: []int{1}}}
	for node := range 4 {
		l := api.TELink{From: node, To: node + 1, Cost: 7, Capacity: 10, Free: [8]int{9, 8, 8, 7, 7, 7, 3, 2}}
		in.links = append(in.links, l)
	}
	return in
}

// fault makes arguments wrong. Of two faults the one with the lower rank counts.
type fault struct {
	name string
	rank int
	err  api.Errno
	make func(in *input)
}

// linkFaults returns the faults of one link, whose ranks begin with one.
func linkFaults(i, rank int) []fault {
	set := func(change func(l *api.TELink)) func(in *input) {
		return func(in *input) {
			// Another fault may have replaced the links.
			if i < len(in.links) {
				change(&in.links[i])
			}
		}
	}
	return []fault{
		{"From below 0", rank, api.ErrRange, set(func(l *api.TELink) { l.From = -1 })},
		{"From n", rank, api.ErrRange, set(func(l *api.TELink) { l.From = 5 })},
		{"From of the greatest int", rank, api.ErrRange, set(func(l *api.TELink) { l.From = math.MaxInt })},
		{"To below 0", rank, api.ErrRange, set(func(l *api.TELink) { l.To = math.MinInt })},
		{"To n", rank, api.ErrRange, set(func(l *api.TELink) { l.To = 5 })},
		{"From and To equal", rank + 1, api.ErrInvalid, set(func(l *api.TELink) { l.To = l.From })},
		{"Cost 0", rank + 2, api.ErrRange, set(func(l *api.TELink) { l.Cost = 0 })},
		{"Cost 65536", rank + 2, api.ErrRange, set(func(l *api.TELink) { l.Cost = 65536 })},
		{"Capacity below 0", rank + 2, api.ErrRange, set(func(l *api.TELink) { l.Capacity, l.Free = -1, [8]int{} })},
		{"Capacity too large", rank + 2, api.ErrRange, set(func(l *api.TELink) { l.Capacity = 1<<40 + 1 })},
		{"first Free above Capacity", rank + 2, api.ErrRange, set(func(l *api.TELink) { l.Free[0] = l.Capacity + 1 })},
		{"last Free below 0", rank + 2, api.ErrRange, set(func(l *api.TELink) { l.Free[7] = -1 })},
		{"first Free less", rank + 3, api.ErrInvalid, set(func(l *api.TELink) { l.Free[0] = l.Free[1] - 1 })},
		{"last Free greater", rank + 3, api.ErrInvalid, set(func(l *api.TELink) { l.Free[7] = l.Free[6] + 1 })},
	}
}

// orderFaults returns the faults in the order of a link and the one before.
func orderFaults(i, rank int) []fault {
	return []fault{
		{"as the link before", rank, api.ErrOrder, func(in *input) {
			if i < len(in.links) {
				in.links[i].From, in.links[i].To = in.links[i-1].From, in.links[i-1].To
			}
		}},
		{"less To than the link before", rank, api.ErrOrder, func(in *input) {
			if i < len(in.links) {
				in.links[i-1].To, in.links[i].From, in.links[i].To = 4, in.links[i-1].From, (in.links[i-1].From+1)%4
			}
		}},
		{"less From than the link before", rank, api.ErrOrder, func(in *input) {
			if i < len(in.links) {
				in.links[i-1].From, in.links[i-1].To, in.links[i].From, in.links[i].To = 2, 0, 1, 3
			}
		}},
	}
}

// constraintFaults returns the faults of a constraint, whose ranks begin with one.
func constraintFaults(rank int) []fault {
	set := func(change func(c *api.Constraint)) func(in *input) { return func(in *input) { change(&in.c) } }
	return []fault{
		{"Bandwidth below 0", rank, api.ErrRange, set(func(c *api.Constraint) { c.Bandwidth = -1 })},
		{"Bandwidth too large", rank, api.ErrRange, set(func(c *api.Constraint) { c.Bandwidth = 1<<40 + 1 })},
		{"Setup and Hold below 0", rank, api.ErrRange, set(func(c *api.Constraint) { c.Setup, c.Hold = -1, -1 })},
		{"Setup 8", rank, api.ErrRange, set(func(c *api.Constraint) { c.Setup = 8 })},
		{"Hold below 0", rank, api.ErrRange, set(func(c *api.Constraint) { c.Hold = math.MinInt })},
		{"Hold 8", rank, api.ErrRange, set(func(c *api.Constraint) { c.Hold = 8 })},
		{"MaxHops below 0", rank, api.ErrRange, set(func(c *api.Constraint) { c.MaxHops = -1 })},
		{"Setup less than Hold", rank + 1, api.ErrInvalid, set(func(c *api.Constraint) { c.Setup, c.Hold = 4, 5 })},
		{"Avoid too long", rank + 2, api.ErrTooLong, set(func(c *api.Constraint) { c.Avoid = append(c.Avoid, make([]int, 64)...) })},
		{"Through too long", rank + 2, api.ErrTooLong, set(func(c *api.Constraint) { c.Through = append(c.Through, make([]int, 64)...) })},
		{"Avoid below 0", rank + 3, api.ErrRange, set(func(c *api.Constraint) { c.Avoid = append(c.Avoid, -1) })},
		{"Avoid n", rank + 3, api.ErrRange, set(func(c *api.Constraint) { c.Avoid = append(c.Avoid, 5) })},
		{"Through below 0", rank + 3, api.ErrRange, set(func(c *api.Constraint) { c.Through = append(c.Through, math.MinInt) })},
		{"Through n", rank + 3, api.ErrRange, set(func(c *api.Constraint) { c.Through = append(c.Through, 5) })},
	}
}

func faults() []fault {
	return slices.Concat(
		[]fault{
			{"n 0", 0, api.ErrRange, func(in *input) { in.n = 0 }},
			{"n below 0", 0, api.ErrRange, func(in *input) { in.n = math.MinInt }},
			{"n 129", 0, api.ErrRange, func(in *input) { in.n = 129 }},
			{"too many links", 1, api.ErrTooLong, func(in *input) { in.links = make([]api.TELink, 1025) }},
		},
		linkFaults(0, 10),
		linkFaults(1, 20), orderFaults(1, 25),
		linkFaults(2, 30), orderFaults(2, 35),
		linkFaults(3, 40), orderFaults(3, 45),
		constraintFaults(50),
	)
}

// P14.1: every fault alone, and the first one of every two.
func TestCheckFaults(t *testing.T) {
	all := faults()
	if in := valid(); cspf.Check(in.n, in.links, in.c) != api.OK {
		t.Fatal("valid arguments are rejected")
	}
	for _, first := range all {
		for _, second := range all {
			if second.rank < first.rank {
				continue
			}
			in := valid()
			// Of two faults of the same rank, it is open which one is found; each of them is tested alone.
			if second.rank > first.rank {
				second.make(&in)
			}
			first.make(&in)
			if err := cspf.Check(in.n, in.links, in.c); err != first.err {
				t.Errorf("Check with %s (%d) and %s (%d) = %v, want %v", first.name, first.rank, second.name, second.rank, err, first.err)
			}
			if path, cost, err := cspf.Route(in.n, in.links, -1, 0, in.c); err != first.err || len(path) != 0 || cost != 0 {
				t.Errorf("Route with %s = %v, %v, %v, want %v", first.name, path, cost, err, first.err)
			}
			if cspf.Fits(in.n, in.links, []int{0}, in.c) {
				t.Errorf("Fits with %s", first.name)
			}
		}
	}
}

// P14.1: the least and greatest numbers that are accepted.
func TestCheckLimits(t *testing.T) {
	for name, change := range map[string]func(in *input){
		"n 128":                  func(in *input) { in.n = 128 },
		"the last node":          func(in *input) { in.n, in.links[3].To, in.c.Avoid, in.c.Through = 128, 127, []int{127}, []int{127} },
		"one node":               func(in *input) { *in = input{n: 1} },
		"no links":               func(in *input) { in.links = nil },
		"Cost 1":                 func(in *input) { in.links[1].Cost = 1 },
		"Cost 65535":             func(in *input) { in.links[1].Cost = 65535 },
		"Capacity 0":             func(in *input) { in.links[1].Capacity, in.links[1].Free = 0, [8]int{} },
		"the greatest Capacity":  func(in *input) { in.links[1].Capacity, in.links[1].Free[0] = 1<<40, 1<<40 },
		"equal Free":             func(in *input) { in.links[1].Free = [8]int{10, 10, 10, 10, 10, 10, 10, 10} },
		"To less than before":    func(in *input) { in.links[1].To = 0 },
		"Bandwidth 0":            func(in *input) { in.c.Bandwidth = 0 },
		"the greatest Bandwidth": func(in *input) { in.c.Bandwidth = 1 << 40 },
		"priorities 0":           func(in *input) { in.c.Setup, in.c.Hold = 0, 0 },
		"priorities 7":           func(in *input) { in.c.Setup, in.c.Hold = 7, 7 },
		"MaxHops 0":              func(in *input) { in.c.MaxHops = 0 },
		"the greatest MaxHops":   func(in *input) { in.c.MaxHops = math.MaxInt },
		"64 nodes to avoid":      func(in *input) { in.c.Avoid = make([]int, 64) },
		"64 nodes to visit":      func(in *input) { in.c.Through = make([]int, 64) },
		"all bits":               func(in *input) { in.c.Include, in.c.Exclude, in.links[0].Affinity = 1<<32-1, 1<<32-1, 1<<32-1 },
	} {
		in := valid()
		change(&in)
		if err := cspf.Check(in.n, in.links, in.c); err != api.OK {
			t.Errorf("%s: %v", name, err)
		}
	}
	r := rand.New(rand.NewPCG(14, 1))
	links := anyLinks(r, 128, 1, 65535)
	if err := cspf.Check(128, links, api.Constraint{}); len(links) != 1024 || err != api.OK {
		t.Error("1024 links:", len(links), err)
	}
}

// P14.2: any numbers, whether links and constraints are valid or not.
func TestUsable(t *testing.T) {
	r := rand.New(rand.NewPCG(14, 2))
	numbers := []int{0, 1, 2, 3, -1, math.MinInt, math.MaxInt}
	counts := map[bool]int{}
	for range 200000 {
		l := api.TELink{From: r.IntN(4), To: r.IntN(4), Affinity: r.Uint32() & r.Uint32() & r.Uint32()}
		for k := range l.Free {
			l.Free[k] = numbers[r.IntN(len(numbers))]
		}
		c := api.Constraint{Bandwidth: numbers[r.IntN(len(numbers))], Setup: r.IntN(10) - 1, Hold: r.IntN(10) - 1}
		switch r.IntN(12) {
		case 0:
			c.Setup = numbers[r.IntN(len(numbers))]
		case 1, 2:
			c.Avoid = []int{r.IntN(4), math.MinInt, r.IntN(4)}
		case 3, 4, 5:
			c.Include = r.Uint32() & r.Uint32() & r.Uint32()
		case 6, 7:
			c.Exclude = r.Uint32() & r.Uint32() & r.Uint32() & r.Uint32()
		}
		ok := cspf.Usable(l, c)
		if want := usable(l, c); ok != want {
			t.Fatalf("Usable(%v, %v) = %v, want %v", l, c, ok, want)
		}
		counts[ok]++
	}
	if counts[true] < 10000 || counts[false] < 10000 {
		t.Error(counts)
	}
}

// P14.2: each condition alone.
func TestUsableCases(t *testing.T) {
	l := api.TELink{From: 1, To: 2, Cost: 1, Capacity: 9, Free: [8]int{9, 8, 7, 6, 5, 4, 3, 2}, Affinity: 6}
	for _, c := range []struct {
		c    api.Constraint
		want bool
	}{
		{api.Constraint{}, true},
		{api.Constraint{Setup: 2, Bandwidth: 7}, true},
		{api.Constraint{Setup: 2, Bandwidth: 8}, false},
		{api.Constraint{Setup: 7, Hold: 1, Bandwidth: 2}, true},
		{api.Constraint{Setup: 7, Hold: 1, Bandwidth: 3}, false},
		{api.Constraint{Setup: 8}, false},
		{api.Constraint{Setup: -1}, false},
		{api.Constraint{Setup: math.MaxInt}, false},
		{api.Constraint{Setup: math.MinInt}, false},
		{api.Constraint{Hold: 9}, true},
		{api.Constraint{Exclude: 1}, true},
		{api.Constraint{Exclude: 2}, false},
		{api.Constraint{Exclude: 12}, false},
		{api.Constraint{Include: 2}, true},
		{api.Constraint{Include: 12}, true},
		{api.Constraint{Include: 9}, false},
		{api.Constraint{Include: 2, Exclude: 4}, false},
		{api.Constraint{Avoid: []int{0, 3}}, true},
		{api.Constraint{Avoid: []int{0, 1}}, false},
		{api.Constraint{Avoid: []int{2, 0}}, false},
		{api.Constraint{Through: []int{0}, MaxHops: -1}, true},
	} {
		if ok := cspf.Usable(l, c.c); ok != c.want {
			t.Errorf("Usable(%v) = %v", c.c, ok)
		}
	}
}
