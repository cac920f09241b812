package verify

import (
	"ganglion/api"
	"ganglion/neuron"
)

// Bounds returns verdicts about spikes.
func Bounds(n api.Net, sure, may []api.Event, ticks int) ([][]int, api.Errno) {
	if e := checkBounds(n, sure, may, ticks); e != api.OK {
		return nil, e
	}
	return verdicts(n, sure, may, ticks), api.OK
}

// checkBounds returns the error of the arguments of Bounds.
func checkBounds(n api.Net, sure, may []api.Event, ticks int) api.Errno {
	if e := checkEvents(n, sure); e != api.OK {
		return e
	}
	if e := checkEvents(n, may); e != api.OK {
		return e
	}
	return checkTicks(ticks)
}

// verdicts is Bounds for arguments that are valid.
func verdicts(n api.Net, sure, may []api.Event, ticks int) [][]int {
	k := newKnowledge(n)
	var out [][]int
	for now := range ticks {
		var always, perhaps []int
		always, sure = take(sure, now)
		perhaps, may = take(may, now)
		row := k.tick(now)
		for i, verdict := range row {
			k.send(now, i, verdict)
		}
		for x, verdict := range inputVerdicts(n.Inputs, always, perhaps) {
			k.send(now, -1-x, verdict)
		}
		out = append(out, row)
	}
	return out
}

// inputVerdicts returns a verdict for each input, whether it has an event in a tick.
func inputVerdicts(inputs int, always, perhaps []int) []int {
	l := make([]int, inputs)
	for _, x := range perhaps {
		l[x] = May
	}
	for _, x := range always {
		l[x] = Always
	}
	return l
}

// span are the bounds of a number.
type span struct{ lo, hi int }

// knowledge is what is known of a network before a tick.
type knowledge struct {
	neurons  []api.Params
	synapses map[int][]api.Synapse
	cases    []cases
	due      [api.MaxDelay][]span // the bounds of the inputs of the neurons, for each of the next ticks
}

// newKnowledge returns what is known of a valid network at first.
func newKnowledge(n api.Net) *knowledge {
	k := &knowledge{neurons: n.Neurons, synapses: bySource(n)}
	for _, p := range n.Neurons {
		c := make(cases, p.Rest+1)
		c.join(0, span{})
		k.cases = append(k.cases, c)
	}
	for d := range k.due {
		k.due[d] = make([]span, len(n.Neurons))
	}
	return k
}

// tick does a tick of all neurons, and returns their verdicts.
func (k *knowledge) tick(now int) []int {
	inputs := k.due[now%api.MaxDelay]
	out := make([]int, len(k.neurons))
	for i, p := range k.neurons {
		out[i] = k.cases[i].tick(p, inputs[i])
	}
	// What is sent in this tick with the greatest delay goes into this same row.
	clear(inputs)
	return out
}

// send adds what a source sends in a tick, by its verdict, to the bounds of inputs.
func (k *knowledge) send(now, source, verdict int) {
	if verdict == Never {
		return
	}
	for _, s := range k.synapses[source] {
		lo, hi := s.Weight, s.Weight
		if verdict == May {
			lo, hi = min(0, lo), max(0, hi)
		}
		x := &k.due[(now+s.Delay)%api.MaxDelay][s.To]
		x.lo += lo
		x.hi += hi
	}
}

// cases are those of a neuron, one for each time of rest: whether it is possible, and the bounds of the potential then.
type cases []struct {
	is bool
	v  span
}

// join adds what is possible with a time of rest.
func (c cases) join(rest int, v span) {
	if x := c[rest]; x.is {
		v = span{min(v.lo, x.v.lo), max(v.hi, x.v.hi)}
	}
	c[rest].is, c[rest].v = true, v
}

// tick does a tick of a neuron with such an input, and returns the verdict.
func (c cases) tick(p api.Params, input span) int {
	awake := c[0]
	copy(c, c[1:])
	clear(c[p.Rest:])
	spike, silent := false, false
	for _, x := range c {
		silent = silent || x.is
	}
	if awake.is {
		v := span{charge(p, awake.v.lo, input.lo), charge(p, awake.v.hi, input.hi)}
		if spike = v.hi >= p.Thresh; spike {
			c.join(p.Rest, span{reset(p, max(v.lo, p.Thresh)), reset(p, v.hi)})
		}
		if v.lo < p.Thresh {
			silent = true
			c.join(0, span{v.lo, min(v.hi, p.Thresh-1)})
		}
	}
	switch {
	case !spike:
		return Never
	case silent:
		return May
	}
	return Always
}

// charge returns what becomes of a potential in a tick with this input, before there can be a spike.
func charge(p api.Params, v, input int) int {
	v, _ = neuron.Leak(p, v)
	return max(p.Floor, min(v+input+p.Bias, api.MaxV))
}

// reset returns what a spike makes of a potential.
func reset(p api.Params, v int) int {
	if p.ResetKind == api.ResetSub {
		return v - p.Thresh
	}
	return p.Reset
}
