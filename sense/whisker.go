package sense

import (
	"iter"

	"ganglion/api"
)

// The states of a whisker. Each one has the number of the events that lead to it.
const (
	bentLeft = iota
	bentRight
	free
)

// Feel returns the events of a whisker.
func Feel(w Whisker, angles []int) ([]api.Event, api.Errno) {
	if !within(1, MaxAngle, w.Touch) || !within(0, w.Touch, w.Back) {
		return nil, api.ErrRange
	}
	if len(angles) > MaxSamples {
		return nil, api.ErrMany
	}
	if !within(-MaxAngle, MaxAngle, angles...) {
		return nil, api.ErrRange
	}
	return gather(w.felt(angles))
}

// felt yields the events of a valid whisker for valid angles.
func (w Whisker) felt(angles []int) iter.Seq[api.Event] {
	return func(yield func(api.Event) bool) {
		state := free
		for now, angle := range angles {
			after := w.next(state, angle)
			if after != state && !yield(api.Event{Tick: now, Id: after}) {
				return
			}
			state = after
		}
	}
}

// next returns the state behind a tick with an angle.
func (w Whisker) next(state, angle int) int {
	release := w.Touch - w.Back - 1
	switch {
	case state == free && angle >= w.Touch:
		return bentRight
	case state == free && angle <= -w.Touch:
		return bentLeft
	case state == bentRight && angle <= release, state == bentLeft && -angle <= release:
		return free
	}
	return state
}
