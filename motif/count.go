package motif

import "ganglion/api"

// maxOffset is the greatest offset of a mark: the neuron of a pattern spikes a tick behind it.
const maxOffset = api.MaxDelay - 1

// Count returns a network that counts events with weights.
func Count(inputs int, l []Tap, thresh int) (api.Net, api.Errno) {
	if !among(inputs, 1, api.MaxInputs) {
		return api.Net{}, api.ErrRange
	}
	if len(l) > MaxTaps {
		return api.Net{}, api.ErrMany
	}
	for _, x := range l {
		if !among(x.Input, 0, inputs-1) {
			return api.Net{}, api.ErrNone
		}
		if !among(x.Weight, 0, api.MaxWeight) || !among(x.Delay, 1, api.MaxDelay) {
			return api.Net{}, api.ErrRange
		}
	}
	if !among(thresh, 1, api.MaxV) {
		return api.Net{}, api.ErrRange
	}
	b := start(inputs)
	neurons(1, adder(), thresh, b.neuron)
	for _, x := range l {
		b.synapse(input(x.Input), 0, x.Weight, x.Delay)
	}
	return b.net, api.OK
}

// Pattern returns a network that finds a pattern of events, of which some can be missed.
func Pattern(inputs int, l []Mark, miss int) (api.Net, api.Errno) {
	if !among(inputs, 1, api.MaxInputs) {
		return api.Net{}, api.ErrRange
	}
	if e := checkMarks(inputs, l); e != api.OK {
		return api.Net{}, e
	}
	if !among(miss, 0, len(l)-1) {
		return api.Net{}, api.ErrRange
	}
	b := start(inputs)
	neurons(1, gate(), len(l)-miss, b.neuron)
	for _, x := range l {
		b.synapse(input(x.Input), 0, 1, api.MaxDelay-x.Offset)
	}
	return b.net, api.OK
}

// checkMarks returns the error of the marks of a pattern.
func checkMarks(inputs int, l []Mark) api.Errno {
	if len(l) > MaxMarks {
		return api.ErrMany
	}
	if len(l) == 0 {
		return api.ErrArg
	}
	again := repeated(l)
	for i, x := range l {
		if !among(x.Input, 0, inputs-1) {
			return api.ErrNone
		}
		if !among(x.Offset, 0, maxOffset) {
			return api.ErrRange
		}
		if i == again {
			return api.ErrHave
		}
	}
	return api.OK
}
