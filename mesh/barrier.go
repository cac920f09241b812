package mesh

import (
	"slices"

	"ganglion/api"
)

// Barrier returns when each core goes on behind a barrier.
func Barrier(s Spec, ready []int) ([]int, api.Errno) {
	if e := Check(s); e != api.OK {
		return nil, e
	}
	if len(ready) != routers(s) {
		return nil, api.ErrShape
	}
	for _, tick := range ready {
		if !among(tick, 0, api.MaxTicks) {
			return nil, api.ErrRange
		}
	}
	// A router reports to one with a smaller number: reports come together downwards, and releases spread upwards.
	ticks := slices.Clone(ready)
	for i := len(ticks) - 1; i > 0; i-- {
		to := reportsTo(s, i)
		ticks[to] = max(ticks[to], ticks[i]+1)
	}
	for i := 1; i < len(ticks); i++ {
		ticks[i] = ticks[reportsTo(s, i)] + 1
	}
	return ticks, api.OK
}

// reportsTo returns the router to which another one than the router 0 reports: the next one on its route to the
// router 0, as this goes along the row to the column 0, and then down.
func reportsTo(s Spec, router int) int {
	to, _ := behind(s, router, toward(s, router, 0))
	return to
}
