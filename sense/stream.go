package sense

import (
	"cmp"
	"iter"
	"slices"

	"ganglion/api"
)

// order compares two events by their places in a stream.
func order(a, b api.Event) int {
	return cmp.Or(cmp.Compare(a.Tick, b.Tick), cmp.Compare(a.Id, b.Id))
}

// checkNext returns the error of an event that is to follow a stream.
func checkNext(l []api.Event, x api.Event) api.Errno {
	switch {
	case len(l) >= api.MaxEvents:
		return api.ErrMany
	case !within(0, MaxTime, x.Tick) || !within(0, MaxId, x.Id):
		return api.ErrRange
	case len(l) > 0 && order(l[len(l)-1], x) >= 0:
		return api.ErrArg
	}
	return api.OK
}

// checkStream returns the error of a stream.
func checkStream(l []api.Event) api.Errno {
	// Too many events are an error that comes before those of single events.
	if len(l) > api.MaxEvents {
		return api.ErrMany
	}
	for i, x := range l {
		if e := checkNext(l[:i], x); e != api.OK {
			return e
		}
	}
	return api.OK
}

// gather makes a list of events, if they are not too many.
func gather(events iter.Seq[api.Event]) ([]api.Event, api.Errno) {
	var l []api.Event
	for x := range events {
		if len(l) == api.MaxEvents {
			return nil, api.ErrMany
		}
		l = append(l, x)
	}
	return l, api.OK
}

// Merge puts two lists of events together.
func Merge(a, b []api.Event) ([]api.Event, api.Errno) {
	if e := checkStream(a); e != api.OK {
		return nil, e
	}
	if e := checkStream(b); e != api.OK {
		return nil, e
	}
	l := slices.Concat(a, b)
	slices.SortFunc(l, order)
	l = slices.Compact(l)
	if len(l) > api.MaxEvents {
		return nil, api.ErrMany
	}
	return l, api.OK
}

// Cut returns the events of some ticks.
func Cut(l []api.Event, from, to int) ([]api.Event, api.Errno) {
	if e := checkStream(l); e != api.OK {
		return nil, e
	}
	if from > to {
		return nil, api.ErrRange
	}
	var out []api.Event
	for _, x := range l {
		if from <= x.Tick && x.Tick < to {
			out = append(out, x)
		}
	}
	return out, api.OK
}
