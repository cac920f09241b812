package verify

import (
	"maps"
	"math/bits"
	"slices"

	"ganglion/api"
	"ganglion/net"
)

// Reach searches events with which a pattern is shown.
func Reach(n api.Net, v Env, pattern []Moment, ticks int) ([]api.Event, int, bool, api.Errno) {
	if e := checkReach(n, v, pattern, ticks); e != api.OK {
		return nil, 0, false, e
	}
	s := newSearch(n, v, pattern)
	for tick := range ticks {
		last := s.tick(tick)
		if last != nil {
			return runEvents(v, last, tick), tick, true, api.OK
		}
		if len(s.kept) > MaxStates {
			return nil, 0, false, api.ErrFull
		}
		if s.repeats(tick) {
			break
		}
	}
	return nil, 0, false, api.OK
}

// checkReach returns the error of the arguments of Reach.
func checkReach(n api.Net, v Env, pattern []Moment, ticks int) api.Errno {
	if e := net.Check(n); e != api.OK {
		return e
	}
	if e := checkEnv(n, v); e != api.OK {
		return e
	}
	if e := checkPattern(n, pattern); e != api.OK {
		return e
	}
	return checkTicks(ticks)
}

// checkEnv returns the error of surroundings of a valid network.
func checkEnv(n api.Net, v Env) api.Errno {
	if len(v.Free) > MaxFree {
		return api.ErrMany
	}
	for k, x := range v.Free {
		if !among(x, 0, n.Inputs-1) {
			return api.ErrRange
		}
		if k > 0 && x <= v.Free[k-1] {
			return api.ErrArg
		}
	}
	if e := checkEvents(n, v.Fixed); e != api.OK {
		return e
	}
	for _, x := range v.Fixed {
		if slices.Contains(v.Free, x.Id) {
			return api.ErrConflict
		}
	}
	if v.Most < 0 {
		return api.ErrRange
	}
	return api.OK
}

// checkPattern returns the error of a pattern of spikes of a valid network.
func checkPattern(n api.Net, pattern []Moment) api.Errno {
	if len(pattern) > MaxPattern {
		return api.ErrMany
	}
	if len(pattern) == 0 {
		return api.ErrArg
	}
	for _, m := range pattern {
		for _, i := range slices.Concat(m.Must, m.Not) {
			if !among(i, 0, len(n.Neurons)-1) {
				return api.ErrRange
			}
		}
	}
	return api.OK
}

// search goes through all runs at once, tick by tick.
type search struct {
	net     api.Net
	free    [][]api.Synapse // those of each free input
	fixed   []api.Event     // those that are still to come
	pattern []Moment
	kept    []situation     // behind the last tick, in the order of their runs
	met     map[string]bool // the same, by their strings
	mark    map[string]bool // what met was behind some earlier tick, from which on no events are fixed
}

// newSearch returns a search before the tick 0, for arguments that are valid.
func newSearch(n api.Net, v Env, pattern []Moment) *search {
	s := &search{net: n, fixed: v.Fixed, pattern: pattern}
	synapses := bySource(n)
	for _, x := range v.Free {
		s.free = append(s.free, synapses[-1-x])
	}
	sim, _ := net.New(n)
	image, _ := sim.Image()
	s.kept = []situation{{image: image, run: &run{}, left: v.Most, shown: 1}}
	return s
}

// tick does a tick of all runs that are kept, and returns the first one with which the pattern is shown at the tick. If
// there is none, those that are kept are then the ones behind the tick, or more than MaxStates of them.
func (s *search) tick(now int) *run {
	var fixed []int
	fixed, s.fixed = take(s.fixed, now)
	before := s.kept
	s.kept, s.met = nil, map[string]bool{}
	for _, x := range before {
		// What happens in a tick has no effect in it. So all choices have the same spikes, and the least one is 0.
		y := s.advance(x, fixed)
		if y.shows(len(s.pattern)) {
			return &run{before: x.run}
		}
		s.branch(y)
	}
	return nil
}

// advance returns the situation behind a tick with these fixed events, before there is a choice.
func (s *search) advance(x situation, fixed []int) situation {
	// There are no errors: the images of runs, and the fixed events, are valid.
	s.send(x.image, x.run.choice, 1)
	sim, _ := net.Resume(s.net, x.image)
	s.send(x.image, x.run.choice, -1)
	spikes, _ := sim.Step(fixed)
	image, _ := sim.Image()
	return situation{image: image, run: x.run, left: x.left, shown: s.show(x.shown, spikes)}
}

// branch keeps the situations that are new, of those to which the choices of a tick lead. It stops when there are too
// many: then only the spikes of the other runs matter.
func (s *search) branch(x situation) {
	for c := range choices(len(s.free), x.left) {
		if len(s.kept) > MaxStates {
			return
		}
		y := situation{image: x.image, run: &run{choice: c, before: x.run}, left: x.left - bits.OnesCount(uint(c)), shown: x.shown}
		s.send(y.image, c, 1)
		name := y.name()
		s.send(y.image, c, -1)
		// Runs come in their order, so the first one with a situation is the least one.
		if !s.met[name] {
			s.met[name] = true
			s.kept = append(s.kept, y)
		}
	}
}

// send adds to what is due behind a tick what the events of its choice send, so many times.
func (s *search) send(x net.Image, choice, times int) {
	for k, synapses := range s.free {
		if choice>>k&1 == 0 {
			continue
		}
		for _, y := range synapses {
			x.Due[y.Delay-1][y.To] += times * y.Weight
		}
	}
}

// show returns how much of the pattern is shown at a tick with these spikes, if so much of it was shown at the one before.
func (s *search) show(shown int, spikes []int) int {
	spiked := make([]bool, len(s.net.Neurons))
	for _, i := range spikes {
		spiked[i] = true
	}
	after := 1
	for k, m := range s.pattern {
		if shown>>k&1 == 1 && m.fits(spiked) {
			after |= 2 << k
		}
	}
	return after
}

// fits reports whether neurons have spikes as the moment says.
func (m Moment) fits(spiked []bool) bool {
	for _, i := range m.Must {
		if !spiked[i] {
			return false
		}
	}
	for _, i := range m.Not {
		if spiked[i] {
			return false
		}
	}
	return true
}

// repeats reports whether the situations behind a tick are those behind an earlier one: then all that follows was there
// before, without the pattern. The earlier ones are taken further and further apart, so that periods of any length are
// found.
func (s *search) repeats(tick int) bool {
	if len(s.fixed) > 0 {
		return false
	}
	if maps.Equal(s.met, s.mark) {
		return true
	}
	if bits.OnesCount(uint(tick)) <= 1 {
		s.mark = s.met
	}
	return false
}

// runEvents returns the events of a run, of which this is the last tick.
func runEvents(v Env, last *run, tick int) []api.Event {
	var l []api.Event
	for _, x := range v.Fixed {
		if x.Tick <= tick {
			l = append(l, x)
		}
	}
	for r := last; tick >= 0; r, tick = r.before, tick-1 {
		for k, id := range v.Free {
			if r.choice>>k&1 == 1 {
				l = append(l, api.Event{Tick: tick, Id: id})
			}
		}
	}
	slices.SortFunc(l, byTick)
	return l
}
