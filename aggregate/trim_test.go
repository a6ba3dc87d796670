package aggregate_test

import (
	"slices"
	"testing"

	"routing/aggregate"
	"routing/api"
)

// isHidden is the definition for entry i of a table: no address is left to it.
func isHidden(l []api.Entry, i int) bool {
	longer := slices.Clone(l)
	for k := range longer {
		longer[k].Value = 0
		if longer[k].Prefix.Len <= l[i].Prefix.Len {
			longer[k].Value = -1
		}
	}
	for _, a := range points(l) {
		if contains(l[i].Prefix, a) && lookup(longer, a) == -1 {
			return false
		}
	}
	return true
}

// trim is the definition of Trim.
func trim(l []api.Entry) []api.Entry {
	var left, result []api.Entry
	for i, e := range l {
		if !isHidden(l, i) {
			left = append(left, e)
		}
	}
	for _, e := range left {
		above := api.Entry{Prefix: pre(0, -1), Value: -1}
		for _, d := range left {
			if d.Prefix.Len < e.Prefix.Len && covers(d.Prefix, e.Prefix) && d.Prefix.Len > above.Prefix.Len {
				above = d
			}
		}
		if e.Value != above.Value {
			result = append(result, e)
		}
	}
	return result
}

// P7.5
func TestTrimOfFewEntries(t *testing.T) {
	for _, c := range []struct{ table, want []api.Entry }{
		{nil, nil},
		{[]api.Entry{row(0, 0, -1)}, nil},
		{[]api.Entry{row(0, 0, 0)}, []api.Entry{row(0, 0, 0)}},
		{[]api.Entry{row(0x0a000000, 8, 1), row(0x0a000000, 9, 1), row(0x0a800000, 9, 2)}, []api.Entry{row(0x0a000000, 9, 1), row(0x0a800000, 9, 2)}},
		// Equivalent halves are not joined.
		{[]api.Entry{row(0, 1, 1), row(1<<31, 1, 1)}, []api.Entry{row(0, 1, 1), row(1<<31, 1, 1)}},
		// The entry above is hidden, so the one above that counts.
		{[]api.Entry{row(0, 0, 1), row(0, 1, 2), row(0, 2, 1), row(1<<30, 2, 2)}, []api.Entry{row(0, 0, 1), row(1<<30, 2, 2)}},
		{[]api.Entry{row(0, 1, 2), row(0, 2, -1), row(1<<30, 2, 2)}, []api.Entry{row(1<<30, 2, 2)}},
		// An entry that repeats the one above it still counts as the one above the next.
		{[]api.Entry{row(0, 0, 1), row(0, 8, 1), row(0, 16, 1), row(0, 24, 2)}, []api.Entry{row(0, 0, 1), row(0, 24, 2)}},
		// Prefixes of different lengths hide one together; one of them is hidden itself.
		{[]api.Entry{row(0, 29, 9), row(0, 30, 1), row(4, 30, 8), row(4, 31, 2), row(6, 31, 8), row(6, 32, 3), row(7, 32, 4)},
			[]api.Entry{row(0, 30, 1), row(4, 31, 2), row(6, 32, 3), row(7, 32, 4)}},
		{[]api.Entry{row(0, 0, 3), row(0, 1, -1), row(1<<31, 1, -1)}, nil},
	} {
		got, e := aggregate.Trim(c.table)
		if e != api.OK || !slices.Equal(got, c.want) {
			t.Errorf("Trim(%v) = %v, %v, want %v", c.table, got, e, c.want)
		}
	}
}

// P7.5
func TestTrimOfAnyTable(t *testing.T) {
	for _, l := range tables(random()) {
		got, e := aggregate.Trim(l)
		if e != api.OK || !slices.Equal(got, trim(l)) {
			t.Fatalf("Trim(%v) = %v, %v, want %v", l, got, e, trim(l))
		}
	}
}

// P7.6
func TestTrimmed(t *testing.T) {
	for _, l := range tables(random()) {
		got, _ := aggregate.Trim(l)
		if a, found := differ(l, got); found || !isTable(got) {
			t.Fatalf("Trim(%v) is %v, which differs at %x", l, got, a)
		}
		for i := range got {
			if _, found := differ(got, slices.Delete(slices.Clone(got), i, i+1)); !found {
				t.Fatalf("Trim(%v) is %v, which does not need %v", l, got, got[i])
			}
		}
	}
}

// P7.5
func TestTrimOfManyEntries(t *testing.T) {
	if got, e := aggregate.Trim(long(2000)); e != api.OK || !slices.Equal(got, long(2000)) {
		t.Error("Trim of different values", len(got), e)
	}
	// All addresses of the first entry lie in the others.
	l := append([]api.Entry{row(0, 22, 5000)}, long(1024)...)
	if got, e := aggregate.Trim(sorted(l)); e != api.OK || !slices.Equal(got, long(1024)) {
		t.Error("Trim of a hidden prefix", len(got), e)
	}
	l = append([]api.Entry{row(0, 22, 5000)}, long(1023)...)
	if got, e := aggregate.Trim(sorted(l)); e != api.OK || !slices.Equal(got, sorted(l)) {
		t.Error("Trim of a prefix with one address of its own", len(got), e)
	}
}
