package calc

import (
	"slices"

	"ganglion/api"
	"ganglion/mesh"
)

// Verify checks bounds that somebody states.
func Verify(s mesh.Spec, l []Flow, r Report) api.Errno {
	if e := checkFlows(s, l); e != api.OK {
		return e
	}
	a := newStudy(s, l)
	if !a.fits(r) {
		return api.ErrShape
	}
	for _, b := range r.Bounds {
		if !among(b.Wait, 0, maxWait) {
			return api.ErrBound
		}
		a.bounds[of(b)] = b
	}
	return caught(func() { a.justify(r) })
}

// of returns the queue that has these bounds.
func of(b Bound) queue { return queue{b.Router, b.Out, b.Class} }

// fits reports whether a report has exactly the queues that are used, and a number for each target.
func (a *study) fits(r Report) bool {
	sameQueue := func(b Bound, q queue) bool { return of(b) == q }
	sameLength := func(late []int, f Flow) bool { return len(late) == len(f.Way.Targets) }
	return slices.EqualFunc(r.Bounds, a.queues(), sameQueue) && slices.EqualFunc(r.Late, a.flows, sameLength)
}

// justify gives up if a report, whose bounds are there already, states less than follows from its own waits.
func (a *study) justify(r Report) {
	for _, b := range r.Bounds {
		least := a.follow(of(b))
		if b.Wait < least.Wait || b.Places < least.Places {
			panic(api.ErrBound)
		}
	}
	if !slices.EqualFunc(r.Late, a.late(), slices.Equal[[]int]) {
		panic(api.ErrBound)
	}
}

// Enough reports whether no queue can be full.
func Enough(s mesh.Spec, r Report) (bool, api.Errno) {
	if e := mesh.Check(s); e != api.OK {
		return false, e
	}
	for _, b := range r.Bounds {
		if b.Places > s.Room {
			return false, api.OK
		}
	}
	return true, api.OK
}
