package mesh

import (
	"slices"
	"testing"
)

// P4.5: a queue gives back what was put in, in this order, and has no more room than it should.
func TestP4_5Queue(t *testing.T) {
	var empty *queue[string]
	if x, ok := empty.take(); x != "" || ok {
		t.Errorf("take of nothing: %q, %v", x, ok)
	}
	for room := 1; room <= MaxRoom; room++ {
		q := &queue[int]{room: room}
		var want []int
		g := uint64(room)
		for i := range 1000 {
			g = g*6364136223846793005 + 1442695040888963407
			if g>>33%5 < 3 {
				ok := q.put(i)
				if ok != (len(want) < room) {
					t.Fatalf("put into %v of the room %d: %v", want, room, ok)
				}
				if ok {
					want = append(want, i)
				}
			} else if x, ok := q.take(); ok != (len(want) > 0) || ok && x != want[0] {
				t.Fatalf("take from %v: %d, %v", want, x, ok)
			} else if ok {
				want = want[1:]
			}
			if !slices.Equal(q.list, want) {
				t.Fatalf("the queue is %v, want %v", q.list, want)
			}
		}
	}
}
