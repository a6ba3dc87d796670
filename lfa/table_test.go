package lfa_test

import (
	"math"
	"math/rand/v2"
	"slices"
	"testing"

	"routing/api"
	"routing/lfa"
	"routing/spf"
)

// anyTable returns a table whose rows have different lengths; its elements are any numbers.
func anyTable(r *rand.Rand) [][]int {
	numbers := []int{0, 1, 2, 3, 4, -1, -1, -2, math.MaxInt, math.MaxInt - 1, math.MaxInt/2 + 1, math.MaxInt / 2, math.MinInt}
	dist := make([][]int, r.IntN(5))
	for i := range dist {
		if r.IntN(8) == 0 {
			continue
		}
		dist[i] = make([]int, r.IntN(3)+r.IntN(4))
		for j := range dist[i] {
			dist[i][j] = numbers[r.IntN(len(numbers))]
		}
	}
	return dist
}

// P13.1
func TestTables(t *testing.T) {
	r := rand.New(rand.NewPCG(13, 1))
	counts := map[string]int{}
	for range 200000 {
		dist := anyTable(r)
		before := slices.Clone(dist)
		x, y, z := r.IntN(6)-1, r.IntN(6)-1, r.IntN(6)-1
		for name, pair := range map[string][2]bool{
			"Loopfree":   {lfa.Loopfree(dist, x, y, z), nearer(dist, y, x, z)},
			"Downstream": {lfa.Downstream(dist, x, y, z), downstream(dist, x, y, z)},
			"Protects":   {lfa.Protects(dist, x, y, z), nearer(dist, x, y, z)},
		} {
			if pair[0] != pair[1] {
				t.Fatalf("%s(%v, %d, %d, %d) = %v, want %v", name, dist, x, y, z, pair[0], pair[1])
			}
			if pair[0] {
				counts[name]++
			}
		}
		if !slices.EqualFunc(dist, before, slices.Equal[[]int]) {
			t.Fatal("the table was changed")
		}
	}
	for _, name := range []string{"Loopfree", "Downstream", "Protects"} {
		if counts[name] < 1000 {
			t.Errorf("%s was true %d times only", name, counts[name])
		}
	}
}

// P13.1: sums, infinite distances, and elements that are missing.
func TestTableCases(t *testing.T) {
	const most = math.MaxInt
	for _, c := range []struct {
		dist                         [][]int
		x, y, z                      int
		loopfree, downstream, shield bool
	}{
		{[][]int{{0, 1, 1}, {1, 0, 2}, {1, 1, 0}}, 0, 1, 2, false, false, true},
		{[][]int{{0, 1, 1}, {1, 0, 1}, {1, 1, 0}}, 0, 1, 2, true, false, true},
		{[][]int{{0, 1, 2}, {1, 0, 1}, {1, 1, 0}}, 0, 1, 2, true, true, false},
		{[][]int{{0, 1, most}, {most, 0, most}, {0, 0, 0}}, 0, 1, 2, true, false, true},
		{[][]int{{0, 0, most}, {0, 0, most}, {0, 0, 0}}, 0, 1, 2, false, false, false},
		{[][]int{{0, most, most}, {most, 0, most}, {0, 0, 0}}, 0, 1, 2, true, false, true},
		{[][]int{{0, 5, 1}, {-1, 0, 9}, {0, 0, 0}}, 0, 1, 2, true, false, true},
		{[][]int{{0, 5, -7}, {0, 0, 9}, {0, 0, 0}}, 0, 1, 2, true, true, false},
		{[][]int{{0, -1, 9}, {-1, 0, -1}, {0, 0, 0}}, 0, 1, 2, false, false, true},
		{[][]int{{0, 0, 9}, {5, 0, math.MinInt}, {0, 0, 0}}, 0, 1, 2, false, false, true},
		{[][]int{{0, 1, 3}, {1, 0, 1}}, 0, 1, 2, true, true, false},
		{[][]int{{0, 1, 3}, {1, 0}}, 0, 1, 2, false, false, false},
		{[][]int{{0, 1}, {1, 0, 1}}, 0, 1, 2, false, false, false},
		{[][]int{{0, 1, -1}, {1, 0}}, 0, 1, 2, false, false, false},
		{[][]int{{0, 1, 3}}, 0, 1, 2, false, false, false},
		{[][]int{nil, {1, 0, 1}}, 0, 1, 2, false, false, false},
		{[][]int{{0, 1, 3}, {1, 0, 1}, {3, 1, 0}}, 0, 1, 3, false, false, false},
		{[][]int{{0, 1, 3}, {1, 0, 1}, {3, 1, 0}}, -1, 1, 2, false, false, false},
		{[][]int{{0, 1, 3}, {1, 0, 1}, {3, 1, 0}}, 0, -1, 2, false, false, false},
		{[][]int{{0, 1, 3}, {1, 0, 1}, {3, 1, 0}}, 0, 1, -1, false, false, false},
		{[][]int{{0, 1, 3}, {1, 0, 1}, {3, 1, 0}}, math.MinInt, most, most, false, false, false},
		{nil, 0, 0, 0, false, false, false},
	} {
		if ok := lfa.Loopfree(c.dist, c.x, c.y, c.z); ok != c.loopfree {
			t.Errorf("Loopfree(%v, %d, %d, %d) = %v", c.dist, c.x, c.y, c.z, ok)
		}
		if ok := lfa.Downstream(c.dist, c.x, c.y, c.z); ok != c.downstream {
			t.Errorf("Downstream(%v, %d, %d, %d) = %v", c.dist, c.x, c.y, c.z, ok)
		}
		if ok := lfa.Protects(c.dist, c.x, c.y, c.z); ok != c.shield {
			t.Errorf("Protects(%v, %d, %d, %d) = %v", c.dist, c.x, c.y, c.z, ok)
		}
	}
}

// P13.1: no shortest path leads through the node, on the tables of graphs.
func TestTablesOfGraphs(t *testing.T) {
	r := rand.New(rand.NewPCG(13, 11))
	for range 1000 {
		g := smallGraph(r)
		d := distances(g)
		dist, err := spf.All(g)
		if err != api.OK {
			t.Fatal(err)
		}
		for a := range d {
			for b := range d {
				for c := range d {
					want := d[a][c] >= 0 && !slices.Contains(passed(g, d, a, c), b)
					if lfa.Loopfree(dist, b, a, c) != want || lfa.Protects(dist, a, b, c) != want {
						t.Fatalf("from %d to %d in %v: through %d %v", a, c, g, b, !want)
					}
				}
			}
		}
	}
}
