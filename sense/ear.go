package sense

import (
	"iter"

	"ganglion/api"
)

// Hear returns the events of an ear.
func Hear(e Ear, samples []int) ([]api.Event, api.Errno) {
	if !within(1, MaxChannels, e.Channels) || !within(1, MaxSample, e.Step) {
		return nil, api.ErrRange
	}
	if len(samples) > MaxSamples {
		return nil, api.ErrMany
	}
	if !within(-MaxSample, MaxSample, samples...) {
		return nil, api.ErrRange
	}
	return gather(e.heard(samples))
}

// heard yields the events of a valid ear for valid samples.
func (e Ear) heard(samples []int) iter.Seq[api.Event] {
	return func(yield func(api.Event) bool) {
		z := make([]int, e.Channels+1)
		loudness := make([]int, e.Channels)
		for now, sample := range samples {
			for k := range z {
				z[k] += (256*sample - z[k]) >> (k + 1) // unlike a division, this rounds down below 0, too
			}
			for k, before := range loudness {
				loudness[k] = (z[k] - z[k+1]) >> 8
				id, is := e.event(k, before, loudness[k])
				if is && !yield(api.Event{Tick: now, Id: id}) {
					return
				}
			}
		}
	}
}

// event returns the Id of the event of a channel whose loudness has changed, and whether there is one.
func (e Ear) event(k, before, after int) (id int, is bool) {
	switch {
	case after >= e.Step && before < e.Step:
		return 2*k + 1, true
	case after <= -e.Step && before > -e.Step:
		return 2 * k, true
	}
	return 0, false
}
