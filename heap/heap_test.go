package heap_test

import (
	"math"
	"math/rand/v2"
	"testing"

	"routing/heap"
)

// model is a queue as the chapter defines it: the keys of the items that are in it.
type model map[int]int

// least returns the item with the least key, of several the least item.
func (m model) least() (item, key int, ok bool) {
	for i, k := range m {
		if !ok || k < key || k == key && i < item {
			item, key, ok = i, k, true
		}
	}
	return item, key, ok
}

// agree fails if the queue for n items is not the one of the model.
func agree(t *testing.T, h *heap.Heap, m model, n int) {
	t.Helper()
	if h.Len() != len(m) {
		t.Fatalf("Len() = %d, want %d", h.Len(), len(m))
	}
	for item := -2; item < n+2; item++ {
		want, in := m[item]
		if key, ok := h.Key(item); key != want || ok != in {
			t.Fatalf("Key(%d) = %d, %v, want %d, %v", item, key, ok, want, in)
		}
	}
	item, key, ok := h.Min()
	if i, k, in := m.least(); item != i || key != k || ok != in {
		t.Fatalf("Min() = %d, %d, %v, want %d, %d, %v", item, key, ok, i, k, in)
	}
}

// step makes one call, compares its results with those of the model, and does the same to that.
func step(t *testing.T, r *rand.Rand, h *heap.Heap, m model, n int) {
	t.Helper()
	item := r.IntN(n+2) - 1
	switch r.IntN(8) {
	case 0:
		wantItem, wantKey, want := m.least()
		delete(m, wantItem)
		if i, k, ok := h.Pop(); i != wantItem || k != wantKey || ok != want {
			t.Fatalf("Pop() = %d, %d, %v, want %d, %d, %v", i, k, ok, wantItem, wantKey, want)
		}
	case 1, 2:
		_, in := m[item]
		delete(m, item)
		if ok := h.Drop(item); ok != in {
			t.Fatalf("Drop(%d) = %v, want %v", item, ok, in)
		}
	default:
		key := r.IntN(7) - 3
		if r.IntN(20) == 0 {
			key = []int{math.MinInt, math.MaxInt, math.MinInt + 1, math.MaxInt - 1}[r.IntN(4)]
		}
		in := item >= 0 && item < n
		if in {
			m[item] = key
		}
		if ok := h.Set(item, key); ok != in {
			t.Fatalf("Set(%d, %d) = %v, want %v", item, key, ok, in)
		}
	}
}

// P10.2, P10.3, P10.4, P10.5
func TestCalls(t *testing.T) {
	r := rand.New(rand.NewPCG(10, 2))
	for n := range 40 {
		h, m := heap.New(n), model{}
		agree(t, h, m, n)
		for range 600 {
			step(t, r, h, m, n)
			agree(t, h, m, n)
		}
	}
}

// P10.1
func TestNew(t *testing.T) {
	for _, c := range []struct{ n, items int }{
		{-1, 0}, {math.MinInt, 0}, {0, 0}, {1, 1}, {2, 2}, {65535, 65535}, {65536, 65536}, {65537, 65536}, {math.MaxInt, 65536},
	} {
		h := heap.New(c.n)
		if h == nil {
			t.Fatalf("New(%d) = nil", c.n)
		}
		if _, _, ok := h.Min(); ok || h.Len() != 0 {
			t.Errorf("New(%d) is not empty", c.n)
		}
		for _, item := range []int{math.MinInt, -1, 0, c.items - 1, c.items, c.items + 1, math.MaxInt} {
			want := item >= 0 && item < c.items
			if _, ok := h.Key(item); ok || h.Drop(item) {
				t.Errorf("New(%d) has the item %d", c.n, item)
			}
			if ok := h.Set(item, 3); ok != want {
				t.Errorf("New(%d): Set(%d, 3) = %v", c.n, item, ok)
			}
			if key, ok := h.Key(item); ok != want || ok && key != 3 || !ok && key != 0 {
				t.Errorf("New(%d): Key(%d) = %d, %v", c.n, item, key, ok)
			}
			if ok := h.Drop(item); ok != want {
				t.Errorf("New(%d): Drop(%d) = %v", c.n, item, ok)
			}
		}
	}
}

// P10.1: what is done to one queue does not show in another one.
func TestQueuesAreSeparate(t *testing.T) {
	a, b := heap.New(3), heap.New(3)
	a.Set(1, 1)
	if _, ok := b.Key(1); ok || b.Len() != 0 {
		t.Error("the item of another queue")
	}
	b.Set(1, 2)
	a.Pop()
	if key, ok := b.Key(1); key != 2 || !ok {
		t.Error("Key", key, ok)
	}
}

// P10.2, P10.4
func TestExample(t *testing.T) {
	h := heap.New(3)
	for _, s := range [][2]int{{2, 5}, {0, 5}, {1, 9}, {1, 1}} {
		if !h.Set(s[0], s[1]) {
			t.Error("Set", s)
		}
	}
	for _, want := range [][2]int{{1, 1}, {0, 5}, {2, 5}} {
		if item, key, ok := h.Pop(); item != want[0] || key != want[1] || !ok {
			t.Error("Pop", item, key, ok)
		}
	}
	if item, key, ok := h.Pop(); item != 0 || key != 0 || ok {
		t.Error("Pop of nothing", item, key, ok)
	}
}

// P10.3, P10.5: an item that was in the queue before has no key, and may come back.
func TestDroppedItems(t *testing.T) {
	h := heap.New(2)
	h.Set(1, 8)
	if !h.Drop(1) || h.Drop(1) || h.Drop(0) {
		t.Error("Drop")
	}
	if key, ok := h.Key(1); key != 0 || ok {
		t.Error("Key after Drop", key, ok)
	}
	h.Set(1, 9)
	h.Pop()
	if key, ok := h.Key(1); key != 0 || ok {
		t.Error("Key after Pop", key, ok)
	}
	h.Set(1, -9)
	if item, key, ok := h.Min(); item != 1 || key != -9 || !ok || h.Len() != 1 {
		t.Error("Min", item, key, ok)
	}
}

// P10.6: a nil queue, and one that New did not make.
func TestQueuesWithoutItems(t *testing.T) {
	for _, h := range []*heap.Heap{nil, new(heap.Heap)} {
		if h.Set(0, 1) || h.Drop(0) || h.Len() != 0 {
			t.Error("Set, Drop or Len")
		}
		if key, ok := h.Key(0); key != 0 || ok {
			t.Error("Key", key, ok)
		}
		if item, key, ok := h.Min(); item != 0 || key != 0 || ok {
			t.Error("Min", item, key, ok)
		}
		if item, key, ok := h.Pop(); item != 0 || key != 0 || ok {
			t.Error("Pop", item, key, ok)
		}
	}
}

// P10.7
func TestOrder(t *testing.T) {
	r := rand.New(rand.NewPCG(10, 7))
	for _, n := range []int{1, 2, 3, 10, 1000, 65536} {
		h := heap.New(n)
		keys := make([]int, n)
		for _, item := range append(r.Perm(n), r.Perm(n)...) {
			keys[item] = r.IntN(n/3+1) - n/6
			h.Set(item, keys[item])
		}
		lastItem, lastKey := -1, math.MinInt
		for left := n; left > 0; left-- {
			if r.IntN(4) == 0 && h.Drop(r.IntN(n)) {
				continue
			}
			item, key, ok := h.Pop()
			if !ok || key != keys[item] || key < lastKey || key == lastKey && item <= lastItem {
				t.Fatalf("of %d items %d with key %d, %v was popped after %d with key %d", n, item, key, ok, lastItem, lastKey)
			}
			lastItem, lastKey = item, key
			if h.Len() != left-1 {
				t.Fatalf("Len() = %d, want %d", h.Len(), left-1)
			}
		}
		if _, _, ok := h.Pop(); ok {
			t.Fatal("more items than were set")
		}
	}
}
