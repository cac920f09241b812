package code

import (
	"cmp"
	"slices"

	"ganglion/api"
)

// Order returns events in the order of values.
func Order(values []int, gap int) ([]api.Event, api.Errno) {
	if len(values) == 0 {
		return nil, api.ErrRange
	}
	if len(values) > MaxValues {
		return nil, api.ErrMany
	}
	if !within(1, MaxGap, gap) {
		return nil, api.ErrRange
	}
	out := make([]api.Event, len(values))
	for i := range out {
		out[i].Id = i
	}
	// The sort is stable: of equal values the one before comes first.
	slices.SortStableFunc(out, func(a, b api.Event) int { return cmp.Compare(values[b.Id], values[a.Id]) })
	for rank := range out {
		out[rank].Tick = rank * gap
	}
	return out, api.OK
}

// Unorder returns the order in which numbers had their first events.
func Unorder(n int, l []api.Event) ([]int, api.Errno) {
	if !within(1, MaxValues, n) {
		return nil, api.ErrRange
	}
	var first [MaxValues]int
	var found [MaxValues]bool
	for _, x := range l {
		if within(0, n-1, x.Id) && (!found[x.Id] || x.Tick < first[x.Id]) {
			first[x.Id], found[x.Id] = x.Tick, true
		}
	}
	var out []int
	for i := range n {
		if found[i] {
			out = append(out, i)
		}
	}
	// The sort is stable: of equal ticks the one with the smaller number comes first.
	slices.SortStableFunc(out, func(a, b int) int { return cmp.Compare(first[a], first[b]) })
	return out, api.OK
}
