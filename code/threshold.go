package code

import (
	"slices"

	"ganglion/api"
)

// Decide returns what a threshold network decides.
func Decide(l []Layer, x []bool) ([]bool, api.Errno) {
	if e := checkLayers(len(x), l); e != api.OK {
		return nil, e
	}
	worth := func(says bool) int {
		if says {
			return 1
		}
		return 0
	}
	says := slices.Clone(x)
	for p := range places(layerSizes(len(x), l)) {
		layer := l[p.layer]
		sum := weigh(layer.Weights[p.index], says[p.first:p.behind], worth)
		says = append(says, sum >= layer.Thresh[p.index])
	}
	return slices.Clone(says[len(says)-len(l[len(l)-1].Thresh):]), api.OK
}

// Convert returns a network of neurons that decides the same.
func Convert(inputs int, l []Layer) (api.Net, api.Errno) {
	if e := checkLayers(inputs, l); e != api.OK {
		return api.Net{}, e
	}
	w := wiring{inputs, api.Net{Inputs: inputs + 1}}
	gate := api.Params{LeakKind: api.LeakShare, Leak: 256, Thresh: 1, ResetKind: api.ResetTo}
	units := 0
	for _, x := range l {
		units += len(x.Thresh)
	}
	w.net.Neurons = slices.Repeat([]api.Params{gate}, units+len(l)-1)
	clock := func(layer int) int { // the one before a layer
		if layer == 0 {
			return input(inputs)
		}
		return units + layer - 1
	}
	for p := range places(layerSizes(inputs, l)) {
		w.weights(p, l[p.layer].Weights[p.index])
		w.lay(clock(p.layer), p.unit, 1-l[p.layer].Thresh[p.index])
	}
	for k := range len(l) - 1 {
		w.lay(clock(k), clock(k+1), 1)
	}
	return w.net, api.OK
}

// Present returns the events for values.
func Present(x []bool, tick int) ([]api.Event, api.Errno) {
	if !within(1, MaxUnits, len(x)) || !within(0, api.MaxTicks-1, tick) {
		return nil, api.ErrRange
	}
	var out []api.Event
	for i, says := range x {
		if says {
			out = append(out, api.Event{Tick: tick, Id: i})
		}
	}
	return append(out, api.Event{Tick: tick, Id: len(x)}), api.OK
}

// layerSizes returns the number of inputs, and how many units each layer has.
func layerSizes(inputs int, l []Layer) []int {
	return sizes(inputs, l, func(x Layer) int { return len(x.Weights) })
}

// checkLayers returns the error of a threshold network.
func checkLayers(inputs int, l []Layer) api.Errno {
	if !within(1, MaxUnits, inputs) {
		return api.ErrRange
	}
	if !within(1, MaxLayers, len(l)) {
		return api.ErrMany
	}
	before := inputs
	for _, x := range l {
		if e := checkLayer(before, x); e != api.OK {
			return e
		}
		before = len(x.Weights)
	}
	return api.OK
}

// checkLayer returns the error of a layer with so many units, or inputs, before it.
func checkLayer(before int, x Layer) api.Errno {
	if !within(1, MaxUnits, len(x.Weights)) {
		return api.ErrRange
	}
	if len(x.Thresh) != len(x.Weights) {
		return api.ErrShape
	}
	for _, row := range x.Weights {
		if len(row) != before {
			return api.ErrShape
		}
	}
	for _, row := range x.Weights {
		if !within(-api.MaxWeight, api.MaxWeight, row...) {
			return api.ErrRange
		}
	}
	if !within(1-api.MaxWeight, 1+api.MaxWeight, x.Thresh...) {
		return api.ErrRange
	}
	return api.OK
}
