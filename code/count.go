package code

import (
	"slices"

	"ganglion/api"
)

// Level returns the counts of a counting network.
func Level(l [][]Unit, most int, x []int) ([]int, api.Errno) {
	if e := checkUnits(len(x), l, most); e != api.OK {
		return nil, e
	}
	if !within(0, most, x...) {
		return nil, api.ErrRange
	}
	counts := slices.Clone(x)
	for p := range places(unitSizes(len(x), l)) {
		u := l[p.layer][p.index]
		sum := u.Bias + weigh(u.Weights, counts[p.first:p.behind], func(count int) int { return count })
		// A sum below 0 is made 0 first, as Go rounds a quotient towards 0.
		counts = append(counts, min(max(sum, 0)/u.Thresh, most))
	}
	return slices.Clone(counts[len(counts)-len(l[len(l)-1]):]), api.OK
}

// Frame returns a network of neurons that counts the same.
func Frame(inputs int, l [][]Unit, most int) (api.Net, api.Errno) {
	if e := checkUnits(inputs, l, most); e != api.OK {
		return api.Net{}, e
	}
	w := wiring{inputs, api.Net{Inputs: inputs + 1 + 2*len(l)}}
	for p := range places(unitSizes(inputs, l)) {
		u := l[p.layer][p.index]
		w.net.Neurons = append(w.net.Neurons, api.Params{LeakKind: api.LeakNone, Thresh: u.Thresh, ResetKind: api.ResetSub, Floor: -api.MaxV})
		w.weights(p, u.Weights)
		w.lay(input(hold(inputs)), p.unit, -api.MaxWeight)
		w.lay(input(release(inputs, p.layer)), p.unit, api.MaxWeight)
		w.lay(input(release(inputs, p.layer)), p.unit, u.Bias)
		w.lay(input(stop(inputs, p.layer)), p.unit, -api.MaxWeight)
	}
	return w.net, api.OK
}

// Frames returns the events for counts.
func Frames(layers, most int, x []int) ([]api.Event, api.Errno) {
	if !within(1, MaxUnits, len(x)) || !within(1, MaxCount, most) || !within(1, MaxLayers, layers) || !within(0, most, x...) {
		return nil, api.ErrRange
	}
	out := []api.Event{{Tick: 0, Id: hold(len(x))}}
	for tick := 1; tick <= most; tick++ {
		for i, count := range x {
			if tick <= count {
				out = append(out, api.Event{Tick: tick, Id: i})
			}
		}
	}
	for k := range layers {
		begin := (k + 1) * (most + 1)
		out = append(out, api.Event{Tick: begin, Id: release(len(x), k)}, api.Event{Tick: begin + most, Id: stop(len(x), k)})
	}
	return out, api.OK
}

// hold, release and stop return the numbers of the inputs that say when units count, behind so many inputs for data.
func hold(data int) int { return data }

func release(data, layer int) int { return data + 1 + 2*layer }

func stop(data, layer int) int { return data + 2 + 2*layer }

// unitSizes returns the number of inputs, and how many units each layer has.
func unitSizes(inputs int, l [][]Unit) []int {
	return sizes(inputs, l, func(x []Unit) int { return len(x) })
}

// checkUnits returns the error of a counting network.
func checkUnits(inputs int, l [][]Unit, most int) api.Errno {
	if !within(1, MaxUnits, inputs) || !within(1, MaxCount, most) {
		return api.ErrRange
	}
	if !within(1, MaxLayers, len(l)) {
		return api.ErrMany
	}
	before := inputs
	for _, layer := range l {
		if !within(1, MaxUnits, len(layer)) {
			return api.ErrRange
		}
		for _, u := range layer {
			if e := checkUnit(before, u, most); e != api.OK {
				return e
			}
		}
		before = len(layer)
	}
	return api.OK
}

// checkUnit returns the error of a counting unit with so many units, or inputs, before it.
func checkUnit(before int, u Unit, most int) api.Errno {
	if len(u.Weights) != before {
		return api.ErrShape
	}
	if !within(1, MaxSum, u.Thresh) {
		return api.ErrRange
	}
	// Each number is examined alone first, so that the sum cannot wrap around.
	if !within(-MaxSum, MaxSum, u.Bias) || !within(-MaxSum, MaxSum, u.Weights...) {
		return api.ErrOver
	}
	sum := max(u.Bias, -u.Bias)
	for _, w := range u.Weights {
		sum += most * max(w, -w)
	}
	if sum > MaxSum {
		return api.ErrOver
	}
	return api.OK
}
