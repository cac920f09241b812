package neuron_test

import (
	"math/big"

	"ganglion/api"
	"ganglion/neuron"
)

// A and B are the neurons of the chapter's examples.
var (
	neuronA = api.Params{LeakKind: api.LeakLine, Leak: 1, Thresh: 5, Floor: -4, Rest: 1}
	neuronB = api.Params{Bias: 2, Thresh: 5, ResetKind: api.ResetSub, Floor: -4, Rest: 1}
)

// generator is the generator of the document, so that every run of the tests has the same cases.
type generator uint64

func (g *generator) below(n int) int {
	*g = *g*6364136223846793005 + 1442695040888963407
	return int(uint64(*g) >> 33 % uint64(n))
}

func (g *generator) from(least, most int) int { return least + g.below(most-least+1) }

// params draws a valid neuron whose numbers are at most about size.
func (g *generator) params(size int) api.Params {
	p := api.Params{LeakKind: g.below(3), ResetKind: g.below(2)}
	switch p.LeakKind {
	case api.LeakLine:
		p.Leak = g.from(1, max(size/8, 1))
	case api.LeakShare:
		p.Leak = g.from(1, 256)
	}
	p.Bias = g.from(-size/4, size/4)
	p.Thresh = g.from(1, size)
	p.Floor = g.from(-size, 0)
	if p.ResetKind == api.ResetTo {
		p.Reset = g.from(p.Floor, p.Thresh-1)
	}
	p.Rest = g.below(4)
	return p
}

// state draws a valid state of a neuron, at times with a potential at or above the threshold.
func (g *generator) state(p api.Params) api.State {
	return api.State{V: g.from(p.Floor, min(2*p.Thresh, api.MaxV)), Rest: g.from(0, p.Rest)}
}

func (g *generator) inputs(n, size int) []int {
	l := make([]int, n)
	for i := range l {
		l[i] = g.from(-size/2, size)
	}
	return l
}

// leakModel follows the definition by sign and absolute value.
func leakModel(p api.Params, v int) int {
	sign, size := 1, v
	if v < 0 {
		sign, size = -1, -v
	}
	switch p.LeakKind {
	case api.LeakLine:
		return sign * max(size-p.Leak, 0)
	case api.LeakShare:
		return sign * (size - size*p.Leak/256)
	}
	return v
}

// tickModel follows the definition of a tick with integers that have no bound.
func tickModel(p api.Params, s api.State, input int) (api.State, bool) {
	if s.Rest > 0 {
		s.Rest--
		return s, false
	}
	sum := big.NewInt(int64(leakModel(p, s.V)))
	sum.Add(sum, big.NewInt(int64(input)))
	sum.Add(sum, big.NewInt(int64(p.Bias)))
	if floor := big.NewInt(int64(p.Floor)); sum.Cmp(floor) < 0 {
		sum = floor
	}
	if most := big.NewInt(api.MaxV); sum.Cmp(most) > 0 {
		sum = most
	}
	v := int(sum.Int64())
	if v < p.Thresh {
		return api.State{V: v}, false
	}
	if p.ResetKind == api.ResetSub {
		return api.State{V: v - p.Thresh, Rest: p.Rest}, true
	}
	return api.State{V: p.Reset, Rest: p.Rest}, true
}

// runModel is Run by the model.
func runModel(p api.Params, s api.State, inputs []int) ([]int, api.State) {
	var spikes []int
	for t, x := range inputs {
		var spike bool
		if s, spike = tickModel(p, s, x); spike {
			spikes = append(spikes, t)
		}
	}
	return spikes, s
}

// cycleModel looks for the first state that is equal to an earlier one by comparing all pairs.
func cycleModel(p api.Params, s api.State, input int) (start, period, spikes int) {
	states, marks := []api.State{s}, []int{}
	for {
		after, spike := tickModel(p, states[len(states)-1], input)
		mark := 0
		if spike {
			mark = 1
		}
		marks = append(marks, mark)
		for i, x := range states {
			if x == after {
				for _, m := range marks[i:] {
					spikes += m
				}
				return i, len(states) - i, spikes
			}
		}
		states = append(states, after)
	}
}

// answers are the errors of all functions that get a neuron, by their names.
func answers(p api.Params, s api.State, number int, inputs []int) map[string]api.Errno {
	l := map[string]api.Errno{"Check": neuron.Check(p), "Valid": neuron.Valid(p, s)}
	_, l["Leak"] = neuron.Leak(p, number)
	_, _, l["Tick"] = neuron.Tick(p, s, number)
	_, _, l["Run"] = neuron.Run(p, s, inputs)
	_, _, l["Silent"] = neuron.Silent(p, s, number)
	_, l["Next"] = neuron.Next(p, s)
	_, _, _, l["Cycle"] = neuron.Cycle(p, s, number)
	_, l["Pack"] = neuron.Pack(p)
	return l
}
