package verify

import (
	"iter"
	"slices"

	"ganglion/api"
	"ganglion/net"
)

// The limits of disturbances, beside MaxRuns.
const (
	maxInputs = 64
	maxJitter = 64
	maxLosses = 64
)

// Runs returns how many disturbances there are.
func Runs(inputs []api.Event, jitter, losses int) (int, api.Errno) {
	if len(inputs) > maxInputs {
		return 0, api.ErrMany
	}
	if !among(jitter, 0, maxJitter) || !among(losses, 0, maxLosses) {
		return 0, api.ErrRange
	}
	for _, x := range inputs {
		if !exists(x.Tick) {
			return 0, api.ErrRange
		}
	}
	n := count(inputs, jitter, losses)
	if n > MaxRuns {
		return 0, api.ErrMany
	}
	return n, api.OK
}

// exists reports whether an event can be in a tick.
func exists(tick int) bool { return among(tick, 0, api.MaxTicks-1) }

// count returns how many disturbances there are, or some number above MaxRuns if there are more.
func count(inputs []api.Event, jitter, losses int) int {
	ways := make([]int, losses+1) // for each number of losses
	ways[0] = 1
	for _, x := range inputs {
		ticks := min(x.Tick, jitter) + 1 + min(api.MaxTicks-1-x.Tick, jitter)
		for lost := losses; lost >= 0; lost-- {
			ways[lost] *= ticks
			if lost > 0 {
				ways[lost] += ways[lost-1]
			}
			// Numbers never become less, so the bound keeps them from growing too far.
			ways[lost] = min(ways[lost], MaxRuns+1)
		}
	}
	sum := 0
	for _, n := range ways {
		sum += n
	}
	return sum
}

// Robust reports whether a claim holds with all disturbances.
func Robust(n api.Net, inputs []api.Event, jitter, losses, ticks int, c Claim) (bool, []api.Event, api.Errno) {
	if e := checkRobust(n, inputs, jitter, losses, ticks, c); e != api.OK {
		return false, nil, e
	}
	holds := kinds()[c.Kind].holds
	for events := range disturbances(inputs, jitter, losses) {
		// There are few events, so most ticks are silent.
		spikes, e := net.Driven(n, events, ticks)
		if e != api.OK {
			return false, nil, e
		}
		if !holds(c, spikes) {
			return false, events, api.OK
		}
	}
	return true, nil, api.OK
}

// checkRobust returns the error of the arguments of Robust.
func checkRobust(n api.Net, inputs []api.Event, jitter, losses, ticks int, c Claim) api.Errno {
	if e := checkEvents(n, inputs); e != api.OK {
		return e
	}
	if _, e := Runs(inputs, jitter, losses); e != api.OK {
		return e
	}
	if e := checkTicks(ticks); e != api.OK {
		return e
	}
	return checkWithin(n, c, ticks)
}

// disturbances yields the events of each disturbance, in order. For each event in turn it goes through its options, and
// for each of these through those of the events behind it.
func disturbances(inputs []api.Event, jitter, losses int) iter.Seq[[]api.Event] {
	return func(yield func([]api.Event) bool) {
		var events []api.Event // the disturbed ones, of those up to here
		var visit func(at, left int) bool
		visit = func(at, left int) bool {
			if at == len(inputs) {
				return yield(inOrder(events))
			}
			x := inputs[at]
		distances:
			for d := range jitter + 1 {
				for _, tick := range []int{x.Tick - d, x.Tick + d} {
					if !exists(tick) {
						continue
					}
					events = append(events, api.Event{Tick: tick, Id: x.Id})
					if !visit(at+1, left) {
						return false
					}
					events = events[:len(events)-1]
					if d == 0 { // it stays, for which there is one option only
						continue distances
					}
				}
			}
			return left == 0 || visit(at+1, left-1)
		}
		visit(0, losses)
	}
}

// inOrder returns events in order; those that are equal are one.
func inOrder(l []api.Event) []api.Event {
	l = slices.Clone(l)
	slices.SortFunc(l, byTick)
	return slices.Compact(l)
}
