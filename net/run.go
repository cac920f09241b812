package net

import "ganglion/api"

// Run returns the spikes of some ticks.
func Run(n api.Net, inputs []api.Event, ticks int) ([]api.Event, api.Errno) {
	if e := checkRun(n, inputs, ticks, api.MaxTicks); e != api.OK {
		return nil, e
	}
	s := begin(n)
	var spikes []api.Event
	for now := range ticks {
		var ids []int
		ids, inputs = take(inputs, now)
		for _, i := range s.tick(ids) {
			spikes = append(spikes, api.Event{Tick: now, Id: i})
		}
		if len(spikes) > api.MaxEvents {
			return nil, api.ErrLong
		}
	}
	return spikes, api.OK
}

// checkRun checks the arguments of a run that can have at most so many ticks.
func checkRun(n api.Net, inputs []api.Event, ticks, most int) api.Errno {
	if e := Check(n); e != api.OK {
		return e
	}
	if !among(ticks, 0, most) {
		return api.ErrRange
	}
	if len(inputs) > api.MaxEvents {
		return api.ErrMany
	}
	for i, x := range inputs {
		if !among(x.Tick, 0, most-1) || !among(x.Id, 0, n.Inputs-1) {
			return api.ErrRange
		}
		if i > 0 && !before(inputs[i-1], x) {
			return api.ErrArg
		}
	}
	return api.OK
}

// before reports whether x comes before y, by Tick and then by Id.
func before(x, y api.Event) bool {
	return x.Tick < y.Tick || x.Tick == y.Tick && x.Id < y.Id
}

// take returns the Ids of the first events, as far as they are in this tick, and the other events.
func take(events []api.Event, tick int) (ids []int, others []api.Event) {
	for len(events) > 0 && events[0].Tick == tick {
		ids = append(ids, events[0].Id)
		events = events[1:]
	}
	return ids, events
}
