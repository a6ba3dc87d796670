package apply

import (
	"slices"

	"routing/api"
	"routing/community"
	"routing/policy"
)

// Act applies actions in order; those that are not valid change nothing.
func Act(l []api.Action, r api.Subject) api.Subject {
	r.Path, r.Communities = duplicate(r.Path), duplicate(r.Communities)
	for _, a := range l {
		if policy.Check(api.PolicySet{Policies: only(api.Term{Actions: []api.Action{a}})}) == api.OK {
			r = changed(a, r)
		}
	}
	return r
}

// changed returns a subject after a valid action.
func changed(a api.Action, r api.Subject) api.Subject {
	switch a.Kind {
	case api.SetPref:
		r.Pref = a.N
	case api.SetMED:
		r.MED = a.N
	case api.SetMetric:
		r.Metric = a.N
	case api.SetTag:
		r.Tag = a.N
	case api.SetNextHop:
		r.NextHop = a.Addr
	case api.AddCommunity:
		r.Communities = community.Add(r.Communities, a.Community)
	case api.DeleteCommunity:
		r.Communities = community.Drop(r.Communities, a.Community)
	case api.Prepend:
		if len(r.Path)+a.N <= api.MaxEntries {
			r.Path = slices.Concat(slices.Repeat([]int{a.AS}, a.N), r.Path)
		}
	}
	return r
}

// duplicate returns a list with memory of its own.
func duplicate[T any](l []T) []T {
	d := make([]T, len(l))
	copy(d, l)
	return d
}
