package mesh_test

import (
	"slices"
	"testing"

	"ganglion/api"
	"ganglion/mesh"
)

// barrier is Barrier for arguments that are known to be valid.
func barrier(t *testing.T, s mesh.Spec, ready []int) []int {
	t.Helper()
	l, e := mesh.Barrier(s, ready)
	if e != api.OK {
		t.Fatalf("Barrier(%v, %v): the error %d", s, ready, e)
	}
	return l
}

// P4.6: the example of the chapter, and barriers for which only some cores matter.
func TestP4_6Barrier(t *testing.T) {
	one := mesh.Spec{Wide: 1, High: 1, Room: 1}
	for _, x := range []struct {
		s           mesh.Spec
		ready, want []int
	}{
		{six, []int{0, 0, 9, 0, 0, 0}, []int{11, 12, 13, 12, 13, 14}},
		{six, make([]int, 6), []int{3, 4, 5, 4, 5, 6}},
		{six, []int{9, 0, 0, 0, 0, 0}, []int{9, 10, 11, 10, 11, 12}},
		{six, []int{0, 0, 0, 9, 0, 0}, []int{10, 11, 12, 11, 12, 13}},
		{six, []int{0, 0, 0, 0, 0, 9}, []int{12, 13, 14, 13, 14, 15}},
		{six, []int{10000, 10000, 10000, 10000, 10000, 10000}, []int{10003, 10004, 10005, 10004, 10005, 10006}},
		{one, []int{5}, []int{5}},
		{mesh.Spec{Wide: 1, High: 3, Room: 1}, []int{0, 4, 0}, []int{5, 6, 7}},
	} {
		before := slices.Clone(x.ready)
		if l := barrier(t, x.s, x.ready); !slices.Equal(l, x.want) {
			t.Errorf("Barrier(%v, %v): %v, want %v", x.s, x.ready, l, x.want)
		}
		if !slices.Equal(x.ready, before) {
			t.Errorf("ready was %v, is %v", before, x.ready)
		}
	}
}

// P4.6: the number of elements comes before their range.
func TestP4_6Errors(t *testing.T) {
	for _, x := range []struct {
		ready []int
		want  api.Errno
	}{
		{nil, api.ErrShape},
		{[]int{-1, 0, 0, 0, 0}, api.ErrShape},
		{[]int{0, 0, 0, 0, 0, 0, -1}, api.ErrShape},
		{[]int{0, 0, 0, 0, 0, -1}, api.ErrRange},
		{[]int{10001, 0, 0, 0, 0, 0}, api.ErrRange},
	} {
		if l, e := mesh.Barrier(six, x.ready); e != x.want || len(l) > 0 {
			t.Errorf("Barrier of %v: %v, %d, want %d", x.ready, l, e, x.want)
		}
	}
}

// P4.6, P4.12: barriers are as the definition says: no core is early, none is late, and later cores go on later.
func TestP4_12Barriers(t *testing.T) {
	var g generator = 59
	for range 1500 {
		s := g.spec(6)
		ready := make([]int, s.Wide*s.High)
		span := g.one(1, 3, 10, 40)
		for i := range ready {
			ready[i] = g.below(span)
		}
		l := barrier(t, s, ready)
		if want := barrierModel(s, ready); !slices.Equal(l, want) {
			t.Fatalf("Barrier(%v, %v): %v, want %v", s, ready, l, want)
		}
		last := slices.Max(ready)
		far := s.Wide + s.High - 2 // the greatest distance from the router 0
		if slices.Min(l) < last || l[slices.Index(ready, last)] > last+2*far {
			t.Fatalf("Barrier(%v, %v): %v is too early or too late", s, ready, l)
		}
		later := g.from(0, api.MaxTicks-last)
		shifted := slices.Clone(ready)
		for i := range shifted {
			shifted[i] += later
		}
		for i, tick := range barrier(t, s, shifted) {
			if tick != l[i]+later {
				t.Fatalf("Barrier(%v, %v), %d ticks later: %d goes on in %d, before in %d", s, ready, later, i, tick, l[i])
			}
		}
	}
}
