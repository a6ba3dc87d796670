package aggregate_test

import (
	"slices"
	"testing"

	"routing/aggregate"
	"routing/api"
)

// minimal returns Minimal(l) after checking that it is a table that is equivalent to l.
func minimal(t *testing.T, l []api.Entry) []api.Entry {
	t.Helper()
	m, e := aggregate.Minimal(l)
	if e != api.OK || !isTable(m) {
		t.Fatalf("Minimal(%v) is %v, %v", l, m, e)
	}
	if a, found := differ(l, m); found {
		t.Fatalf("Minimal(%v) is %v, which differs at %x", l, m, a)
	}
	return m
}

// P7.4: the examples and some other tables of which only one least form exists.
func TestMinimalOfFewEntries(t *testing.T) {
	for _, c := range []struct{ table, want []api.Entry }{
		{nil, nil},
		{[]api.Entry{row(0, 0, -1)}, nil},
		{[]api.Entry{row(0, 0, 0)}, []api.Entry{row(0, 0, 0)}},
		{[]api.Entry{row(0, 0, 1), row(0x0a000000, 9, 2), row(0x0a800000, 9, 2)}, []api.Entry{row(0, 0, 1), row(0x0a000000, 8, 2)}},
		{[]api.Entry{row(0, 1, 1), row(1<<31, 1, 1)}, []api.Entry{row(0, 0, 1)}},
		{[]api.Entry{row(0, 0, 1), row(0, 1, -1), row(1<<31, 1, -1)}, nil},
		{[]api.Entry{row(0, 0, 1), row(5, 32, -1)}, []api.Entry{row(0, 0, 1), row(5, 32, -1)}},
		{[]api.Entry{row(0x0a000000, 8, 1), row(0x0a010000, 16, 1)}, []api.Entry{row(0x0a000000, 8, 1)}},
		{[]api.Entry{row(0, 0, 3), row(0, 1, 4), row(0, 2, 5), row(1<<30, 2, 5), row(1<<31, 1, 5)}, []api.Entry{row(0, 0, 5)}},
		{[]api.Entry{row(0, 32, 1), row(1, 32, 1), row(4, 32, 1), row(5, 32, 1)}, []api.Entry{row(0, 31, 1), row(4, 31, 1)}},
		{[]api.Entry{row(0, 2, 7), row(1<<30, 2, 8), row(1<<31, 2, 7), row(3<<30, 2, 7)}, []api.Entry{row(0, 0, 7), row(1<<30, 2, 8)}},
	} {
		if got := minimal(t, c.table); !slices.Equal(got, c.want) {
			t.Errorf("Minimal(%v) = %v, want %v", c.table, got, c.want)
		}
	}
}

// P7.4, P7.7: of all tables of eighths of all addresses with at most five entries and three values, none has the
// lookups of a table and fewer entries.
func TestMinimalAmongAllTables(t *testing.T) {
	const most = 5
	all := parts(pre(0, 0))
	least := map[[8]int]int{}
	var extend func(l []api.Entry, next int)
	extend = func(l []api.Entry, next int) {
		var lookups [8]int
		for i := range lookups {
			lookups[i] = lookup(l, api.Addr(i)<<29)
		}
		if n, found := least[lookups]; !found || len(l) < n {
			least[lookups] = len(l)
		}
		for i := next; i < len(all) && len(l) < most; i++ {
			for value := -1; value <= 1; value++ {
				extend(append(l, api.Entry{Prefix: all[i], Value: value}), i+1)
			}
		}
	}
	extend(nil, 0)
	for number := range 6561 {
		var lookups [8]int
		var l []api.Entry
		for i := range lookups {
			lookups[i] = number%3 - 1
			number /= 3
			l = append(l, row(api.Addr(i)<<29, 3, lookups[i]))
		}
		n, found := least[lookups]
		if got := minimal(t, l); found && len(got) != n || !found && len(got) <= most {
			t.Fatalf("Minimal(%v) is %v; the least number of entries is %d", l, got, n)
		}
	}
}

// need returns for each value of an entry above p how many entries are needed below that one for the lookups in p
// of a table, of which l are the entries that p covers and above is the value of the longest prefix that covers p.
func need(l []api.Entry, p api.Prefix, above int, values []int) map[int]int {
	if len(l) > 0 && l[0].Prefix == p {
		above, l = l[0].Value, l[1:]
	}
	without := map[int]int{}
	if len(l) == 0 {
		for _, value := range values {
			if value != above {
				without[value] = len(values) + 1 // some number that is too large
			}
		}
	} else {
		low, high := pre(p.Addr, p.Len+1), pre(p.Addr+api.Addr(size(p.Len)/2), p.Len+1)
		i := 0
		for i < len(l) && covers(low, l[i].Prefix) {
			i++
		}
		a, b := need(l[:i], low, above, values), need(l[i:], high, above, values)
		for _, value := range values {
			without[value] = a[value] + b[value]
		}
	}
	fewest := without[above]
	for _, value := range values {
		fewest = min(fewest, without[value])
	}
	result := map[int]int{}
	for _, value := range values {
		result[value] = min(without[value], fewest+1)
	}
	return result
}

// P7.4, P7.7
func TestMinimalOfAnyTable(t *testing.T) {
	for _, l := range tables(random()) {
		values := []int{-1}
		for _, e := range l {
			values = append(values, e.Value)
		}
		slices.Sort(values)
		values = slices.Compact(values)
		want := need(l, pre(0, 0), -1, values)[-1]
		if got := minimal(t, l); len(got) != want {
			t.Fatalf("Minimal(%v) has %d entries, want %d", l, len(got), want)
		}
	}
}

// P7.4, P7.7
func TestMinimalOfManyEntries(t *testing.T) {
	// Pairs of neighbors with equal values become one entry.
	l := long(2000)
	for i := range l {
		l[i].Value = i / 2
	}
	if m := minimal(t, l); len(m) != 1000 {
		t.Error("Minimal of pairs", len(m))
	}
	if m := minimal(t, long(2000)); len(m) != 2000 {
		t.Error("Minimal of different values", len(m))
	}
	// A chain of all lengths cannot become shorter if all of its values differ.
	l = nil
	for n := range 33 {
		l = append(l, row(0, n, n))
	}
	if m := minimal(t, l); len(m) != 33 {
		t.Error("Minimal of a chain", m)
	}
}
