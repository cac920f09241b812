package neuron

import (
	"iter"
	"slices"

	"ganglion/api"
)

// MaxPeriod is the greatest sum of a start and a period.
const MaxPeriod = 1 << 16

// longest is more silent ticks than a neuron can take to its next spike: it rests, and from then on its potential,
// as every leak keeps the order of potentials, goes only up or only down.
const longest = api.MaxRest + 2*api.MaxV + 2

// Run returns the ticks with spikes, and the state behind some ticks.
func Run(p api.Params, s api.State, inputs []int) ([]int, api.State, api.Errno) {
	if e := Valid(p, s); e != api.OK {
		return nil, api.State{}, e
	}
	if len(inputs) > api.MaxTicks {
		return nil, api.State{}, api.ErrMany
	}
	spikes, after := collect(p, s, slices.Values(inputs))
	return spikes, after, api.OK
}

// Silent returns the same for silent ticks.
func Silent(p api.Params, s api.State, n int) ([]int, api.State, api.Errno) {
	if e := Valid(p, s); e != api.OK {
		return nil, api.State{}, e
	}
	if !among(n, 0, api.MaxTicks) {
		return nil, api.State{}, api.ErrRange
	}
	spikes, after := collect(p, s, silence(n))
	return spikes, after, api.OK
}

// silence yields the input of n silent ticks.
func silence(n int) iter.Seq[int] { return again(0, n) }

// again yields an input n times.
func again(input, n int) iter.Seq[int] {
	return func(yield func(int) bool) {
		for range n {
			if !yield(input) {
				return
			}
		}
	}
}

// ticks yields the state behind each tick with these inputs, and whether there was a spike in it.
func ticks(p api.Params, s api.State, inputs iter.Seq[int]) iter.Seq2[api.State, bool] {
	l, _ := leakOf(p.LeakKind)
	return func(yield func(api.State, bool) bool) {
		now := s
		for input := range inputs {
			after, spike := step(p, l, now, input)
			if !yield(after, spike) {
				return
			}
			now = after
		}
	}
}

// collect returns the ticks with spikes, and the state behind the last tick.
func collect(p api.Params, s api.State, inputs iter.Seq[int]) ([]int, api.State) {
	var spikes []int
	now := 0
	for after, spike := range ticks(p, s, inputs) {
		if spike {
			spikes = append(spikes, now)
		}
		s = after
		now++
	}
	return spikes, s
}

// Next returns the first silent tick with a spike, or -1.
func Next(p api.Params, s api.State) (int, api.Errno) {
	if e := Valid(p, s); e != api.OK {
		return 0, e
	}
	n := 0
	for after, spike := range ticks(p, s, silence(longest)) {
		if spike {
			return n, api.OK
		}
		if after == s { // it stays like this for ever
			break
		}
		s = after
		n++
	}
	return -1, api.OK
}

// visit says when a state occurred first, and how many spikes there were before.
type visit struct {
	number int
	spikes int
}

// Cycle returns when a neuron repeats itself under a constant input.
func Cycle(p api.Params, s api.State, input int) (start, period, spikes int, e api.Errno) {
	if e = Valid(p, s); e != api.OK {
		return 0, 0, 0, e
	}
	var now visit
	seen := map[api.State]visit{s: now}
	for after, spike := range ticks(p, s, again(input, MaxPeriod)) {
		now.number++
		if spike {
			now.spikes++
		}
		if first, met := seen[after]; met {
			return first.number, now.number - first.number, now.spikes - first.spikes, api.OK
		}
		seen[after] = now
	}
	return 0, 0, 0, api.ErrLong
}
