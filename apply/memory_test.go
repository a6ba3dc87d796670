package apply_test

import (
	"math/rand/v2"
	"reflect"
	"slices"
	"testing"

	"routing/api"
	"routing/apply"
)

func all[T any](l []T) []T { return slices.Clone(l[:cap(l)]) }

// roomy returns a list like l with spare elements behind its end.
func roomy[T any](l []T, spare T) []T { return append(slices.Clone(l), spare, spare)[:len(l)] }

func fill[T any](l []T, x T) {
	for i := range l[:cap(l)] {
		l[:cap(l)][i] = x
	}
}

// roomySet returns a set like s, whose policies have lists with spare elements behind their ends, and a function that
// reports whether neither the set nor these elements were changed.
func roomySet(s api.PolicySet) (api.PolicySet, func() bool) {
	s.Policies = roomy(s.Policies, api.Policy{Name: "spare"})
	for i, p := range s.Policies {
		s.Policies[i].Terms = roomy(p.Terms, api.Term{Name: "spare"})
		for j, t := range s.Policies[i].Terms {
			s.Policies[i].Terms[j].Matches = roomy(t.Matches, api.Match{N: 77})
			s.Policies[i].Terms[j].Actions = roomy(t.Actions, api.Action{N: 77})
		}
	}
	whole := func() api.PolicySet {
		w := s
		w.Policies = all(s.Policies)
		for i, p := range w.Policies {
			w.Policies[i].Terms = all(p.Terms)
			for j, t := range w.Policies[i].Terms {
				w.Policies[i].Terms[j].Matches, w.Policies[i].Terms[j].Actions = all(t.Matches), all(t.Actions)
			}
		}
		return w
	}
	before := whole()
	return s, func() bool { return reflect.DeepEqual(whole(), before) }
}

// roomySubject does the same for a subject.
func roomySubject(x api.Subject) (api.Subject, func() bool) {
	x.Path, x.Communities = roomy(x.Path, 77), roomy(x.Communities, 77)
	path, communities := all(x.Path), all(x.Communities)
	return x, func() bool { return slices.Equal(all(x.Path), path) && slices.Equal(all(x.Communities), communities) }
}

// R5: no function changes its arguments, and the results share no memory with them.
func TestMemory(t *testing.T) {
	r := rand.New(rand.NewPCG(21, 5))
	given := parsed(t, lists)
	for range 5000 {
		s, name := anySet(r, given)
		s, sameSet := roomySet(s)
		x, sameSubject := roomySubject(anySubject(r))
		actions := roomy(several(r, 3, anyAction), api.Action{N: 77})
		before := all(actions)
		unchanged := func() bool { return sameSet() && sameSubject() && slices.Equal(all(actions), before) }
		apply.Check(x)
		apply.Same(x, x)
		apply.Holds(s, anyMatch(r), x)
		terms, _ := apply.Terms(s, name, x)
		fill(terms, -7)
		v, _ := apply.Run(s, name, x)
		w := apply.Act(actions, x)
		for _, y := range []api.Subject{v.Route, w} {
			fill(y.Path, -7)
			fill(y.Communities, 7)
		}
		if !unchanged() {
			t.Fatalf("an argument was changed: %+v, %+v", s, x)
		}
		again, _ := apply.Run(s, name, x)
		_, want, _ := run(s, name, x)
		if !equalVerdict(again, want) || !equal(apply.Act(actions, x), acted(actions, x)) {
			t.Fatalf("another result for %+v, %q, %+v", s, name, x)
		}
		want = api.Verdict{Accept: want.Accept, Route: copied(want.Route)}
		fill(x.Path, 5)
		fill(x.Communities, 5)
		if !equalVerdict(again, want) {
			t.Fatalf("a result changed with its argument: %+v", again)
		}
	}
	if !reflect.DeepEqual(given, parsed(t, lists)) {
		t.Error("lists were changed")
	}
}
