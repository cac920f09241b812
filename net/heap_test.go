package net

import (
	"slices"
	"testing"
)

// P2.3: the heap gives back what was put in, in its order, also if elements come and go in between.
func TestP2_3Heap(t *testing.T) {
	h := heap[int]{less: func(a, b int) bool { return a > b }}
	if x, ok := h.pop(); x != 0 || ok {
		t.Fatalf("pop of nothing: %d, %v", x, ok)
	}
	var want []int // in ascending order, so that the last one comes first
	g := uint64(43)
	for i := range 5000 {
		g = g*6364136223846793005 + 1442695040888963407
		x := int(g>>33) % 200
		if x < 80 && i < 4000 || i > 4500 {
			got, ok := h.pop()
			if ok != (len(want) > 0) || ok && got != want[len(want)-1] {
				t.Fatalf("pop, the call %d: %d, %v, want the last one of %v", i, got, ok, want)
			}
			want = want[:max(len(want)-1, 0)]
			continue
		}
		h.push(x)
		at, _ := slices.BinarySearch(want, x)
		want = slices.Insert(want, at, x)
	}
}
