package hello_test

import (
	"math"
	"math/rand/v2"
	"slices"
	"testing"

	"routing/api"
	"routing/hello"
)

// roomy returns a list like l with spare elements behind its end.
func roomy[T any](l []T, spare T) []T { return append(slices.Clone(l), spare, spare)[:len(l)] }

func roomyOne(n api.Neighbor) api.Neighbor {
	h := api.LSAHeader{ID: 77}
	n.List, n.Sent, n.Requests, n.Unacked = roomy(n.List, h), roomy(n.Sent, h), roomy(n.Requests, h), roomy(n.Unacked, h)
	return n
}

// roomyState returns a state like s, all lists of which have spare elements.
func roomyState(s api.IfState) api.IfState {
	s.Neighbors = roomy(s.Neighbors, roomyOne(api.Neighbor{Router: 77}))
	for i, n := range s.Neighbors {
		s.Neighbors[i] = roomyOne(n)
	}
	return s
}

// whole returns a state like s with copies of all that lies in its lists and behind their ends.
func whole(s api.IfState) api.IfState {
	s.Neighbors = slices.Clone(s.Neighbors[:cap(s.Neighbors)])
	for i := range s.Neighbors {
		for _, l := range lists(&s.Neighbors[i]) {
			*l = slices.Clone((*l)[:cap(*l)])
		}
	}
	return s
}

func lists(n *api.Neighbor) []*[]api.LSAHeader {
	return []*[]api.LSAHeader{&n.List, &n.Sent, &n.Requests, &n.Unacked}
}

// wipe changes everything in the lists of s, also behind their ends.
func wipe(s api.IfState) {
	for i := range s.Neighbors[:cap(s.Neighbors)] {
		n := &s.Neighbors[:cap(s.Neighbors)][i]
		wipeOne(n)
		*n = api.Neighbor{Router: 99}
	}
}

func wipeOne(n *api.Neighbor) {
	for _, l := range lists(n) {
		for j := range (*l)[:cap(*l)] {
			(*l)[:cap(*l)][j].Seq = -9
		}
	}
}

// results are the states and neighbors, as states, that the functions return.
func results(s api.IfState, p api.LSPacket, n api.Neighbor) []api.IfState {
	a, _ := hello.Receive(s, 1, p, 100)
	found, _ := hello.Find(s, n.Router)
	heard, _ := hello.Find(s, p.Router)
	return []api.IfState{a, hello.Expire(s, 100), hello.With(s, n), up(2, found), up(2, heard)}
}

// R5: no function changes its arguments or what lies behind their ends.
func TestArgumentsUnchanged(t *testing.T) {
	r := rand.New(rand.NewPCG(26, 15))
	for i := range 3000 {
		s := anyState(r)
		if i%2 == 0 {
			s = oddState(r)
		}
		s = roomyState(s)
		p, n := anyHello(r, s), roomyOne(anyNeighbor(r, 2+r.Uint32N(4)))
		p.Hello.Seen = roomy(p.Hello.Seen, 77)
		before, own, seen := whole(s), whole(up(2, n)), slices.Clone(p.Hello.Seen[:cap(p.Hello.Seen)])
		results(s, p, n)
		hello.Make(s, 1)
		hello.Wants(s, 1, n)
		if !equal(whole(s), before) || !equal(whole(up(2, n)), own) || !slices.Equal(p.Hello.Seen[:cap(p.Hello.Seen)], seen) {
			t.Fatal("changed", s, p, n)
		}
	}
}

// R5: results share no memory with arguments or with each other.
func TestResultsAreNew(t *testing.T) {
	r := rand.New(rand.NewPCG(26, 16))
	for range 3000 {
		s := anyState(r)
		p, n := anyHello(r, s), anyNeighbor(r, 2+r.Uint32N(4))
		got, want := results(roomyState(s), p, roomyOne(n)), results(s, p, n)
		given, own := roomyState(s), roomyOne(n)
		again, seen := results(given, p, own), hello.Make(given, 1).Hello.Seen
		wipe(given)
		wipeOne(&own)
		for i := range again {
			if !equal(again[i], want[i]) {
				t.Fatalf("result %d changes with the arguments: %v", i, again[i])
			}
		}
		if !slices.Equal(seen, hello.Make(s, 1).Hello.Seen) {
			t.Fatal("the routers that are seen change with the state")
		}
		for i := range got {
			wipe(got[i])
			for j := i + 1; j < len(got); j++ {
				if !equal(got[j], want[j]) {
					t.Fatal("two results share memory")
				}
			}
		}
	}
}

// R5: no two lists of one result share memory, even if those of the argument do.
func TestResultsAreApart(t *testing.T) {
	shared := []api.LSAHeader{{ID: 1}}
	n := api.Neighbor{Router: 2, State: 6, Until: 500, List: shared, Sent: shared, Requests: shared, Unacked: shared}
	m := n
	m.Router = 3
	for i, s := range results(up(2, n, m), packet(2, 1), m) {
		for j := range s.Neighbors {
			for k, l := range lists(&s.Neighbors[j]) {
				(*l)[0].Seq = 10*j + k
			}
		}
		for j := range s.Neighbors {
			for k, l := range lists(&s.Neighbors[j]) {
				if (*l)[0].Seq != 10*j+k {
					t.Errorf("result %d: two lists share memory", i)
				}
			}
		}
	}
}

// R1: Receive returns for all arguments.
func TestReceiveOdd(t *testing.T) {
	r := rand.New(rand.NewPCG(26, 17))
	for range 20000 {
		s := oddState(r)
		hello.Receive(s, pick(r, words...), oddHello(r, anyHello(r, s)), pick(r, 0, -1, math.MinInt, math.MaxInt))
	}
	if got, e := hello.Receive(up(2, crowd(500)...), 1, packet(2), 7); e != api.ErrFull || !equal(got, api.IfState{}) {
		t.Error("far too many neighbors", got, e)
	}
}
