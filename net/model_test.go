package net_test

import (
	"slices"
	"testing"

	"ganglion/api"
	"ganglion/net"
	"ganglion/neuron"
)

// neuronA is the neuron A of the chapters' examples.
var neuronA = api.Params{LeakKind: api.LeakLine, Leak: 1, Thresh: 5, Floor: -4, Rest: 1}

func syn(from, to, weight, delay int) api.Synapse {
	return api.Synapse{From: from, To: to, Weight: weight, Delay: delay}
}

// netE and netL return the networks E and L of the chapter's examples.
func netE() api.Net {
	return api.Net{Neurons: []api.Params{neuronA, neuronA}, Inputs: 1, Synapses: []api.Synapse{syn(-1, 0, 6, 1), syn(0, 1, 6, 3)}}
}

func netL() api.Net {
	n := netE()
	n.Synapses = append(n.Synapses, syn(0, 0, 6, 2))
	return n
}

// many returns a network of so many neurons without synapses.
func many(p api.Params, neurons int) api.Net {
	return api.Net{Neurons: slices.Repeat([]api.Params{p}, neurons)}
}

// always spikes in every tick.
var always = api.Params{Bias: 1, Thresh: 1}

// ev returns events, of which Tick and Id are given in turns.
func ev(l ...int) []api.Event {
	var out []api.Event
	for i := 0; i < len(l); i += 2 {
		out = append(out, api.Event{Tick: l[i], Id: l[i+1]})
	}
	return out
}

func cloneNet(n api.Net) api.Net {
	return api.Net{Neurons: slices.Clone(n.Neurons), Inputs: n.Inputs, Synapses: slices.Clone(n.Synapses)}
}

func sameNet(a, b api.Net) bool {
	return slices.Equal(a.Neurons, b.Neurons) && a.Inputs == b.Inputs && slices.Equal(a.Synapses, b.Synapses)
}

func cloneImage(x net.Image) net.Image {
	y := net.Image{Tick: x.Tick, States: slices.Clone(x.States)}
	for _, row := range x.Due {
		y.Due = append(y.Due, slices.Clone(row))
	}
	return y
}

func sameImage(a, b net.Image) bool {
	return a.Tick == b.Tick && slices.Equal(a.States, b.States) && slices.EqualFunc(a.Due, b.Due, slices.Equal[[]int])
}

// sorted returns events by Tick and then by Id.
func sorted(l []api.Event) []api.Event {
	l = slices.Clone(l)
	slices.SortFunc(l, func(a, b api.Event) int {
		if a.Tick != b.Tick {
			return a.Tick - b.Tick
		}
		return a.Id - b.Id
	})
	return l
}

// generator is the generator of the document, so that every run of the tests has the same cases.
type generator uint64

func (g *generator) below(n int) int {
	*g = *g*6364136223846793005 + 1442695040888963407
	return int(uint64(*g) >> 33 % uint64(n))
}

func (g *generator) from(least, most int) int { return least + g.below(most-least+1) }

// params draws a valid neuron whose numbers are at most about size, half of the time without a bias.
func (g *generator) params(size int) api.Params {
	p := api.Params{LeakKind: g.below(3), ResetKind: g.below(2)}
	switch p.LeakKind {
	case api.LeakLine:
		p.Leak = g.from(1, max(size/8, 1))
	case api.LeakShare:
		p.Leak = g.from(1, 256)
	}
	if g.below(2) == 0 {
		p.Bias = g.from(-size/8, size/4)
	}
	p.Thresh = g.from(1, size)
	p.Floor = g.from(-size, 0)
	if p.ResetKind == api.ResetTo {
		p.Reset = g.from(p.Floor, p.Thresh-1)
	}
	p.Rest = g.below(4)
	return p
}

// net draws a valid network of a few neurons whose numbers are at most about size.
func (g *generator) net(size int) api.Net {
	n := api.Net{Inputs: g.below(4)}
	for range g.from(1, 7) {
		n.Neurons = append(n.Neurons, g.params(size))
	}
	most := min(size, api.MaxWeight)
	for range g.below(20) {
		n.Synapses = append(n.Synapses, syn(g.from(-n.Inputs, len(n.Neurons)-1), g.below(len(n.Neurons)), g.from(-most/2, most), g.from(1, api.MaxDelay)))
	}
	return n
}

// events draws events at the inputs of a network, about one in so many ticks at each of them.
func (g *generator) events(n api.Net, ticks, seldom int) []api.Event {
	var l []api.Event
	for t := 0; t < ticks; t += g.from(1, max(seldom/2, 1)) {
		for i := range n.Inputs {
			if g.below(2) == 0 {
				l = append(l, api.Event{Tick: t, Id: i})
			}
		}
	}
	return l
}

// order draws an order of so many numbers.
func (g *generator) order(n int) []int {
	l := make([]int, n)
	for i := range l {
		j := g.below(i + 1)
		l[i], l[j] = l[j], i
	}
	return l
}

// sending is that a source sends something in a tick.
type sending struct{ source, tick int }

// runModel follows the definition of a simulation: in each tick it asks all synapses for what was sent then.
func runModel(n api.Net, inputs []api.Event, ticks int) []api.Event {
	sent := map[sending]bool{}
	for _, x := range inputs {
		sent[sending{-1 - x.Id, x.Tick}] = true
	}
	states := make([]api.State, len(n.Neurons))
	var spikes []api.Event
	for t := range ticks {
		sums := make([]int, len(n.Neurons))
		for _, s := range n.Synapses {
			if sent[sending{s.From, t - s.Delay}] {
				sums[s.To] += s.Weight
			}
		}
		for i, p := range n.Neurons {
			var spike bool
			if states[i], spike, _ = neuron.Tick(p, states[i], sums[i]); spike {
				sent[sending{i, t}] = true
				spikes = append(spikes, api.Event{Tick: t, Id: i})
			}
		}
	}
	return spikes
}

// longModel does as many ticks as are asked for, one by one, in simulations that go on from the image of the one before.
func longModel(t *testing.T, n api.Net, inputs []api.Event, ticks int) []api.Event {
	t.Helper()
	s := newSim(t, n)
	var spikes []api.Event
	for now := range ticks {
		if s.Now() == api.MaxTicks {
			x, _ := s.Image()
			x.Tick = 0
			s = resume(t, n, x)
		}
		var ids []int
		for len(inputs) > 0 && inputs[0].Tick == now {
			ids = append(ids, inputs[0].Id)
			inputs = inputs[1:]
		}
		for _, i := range step(t, s, ids) {
			spikes = append(spikes, api.Event{Tick: now, Id: i})
		}
	}
	return spikes
}

// newSim, resume, step, image, run and driven are the functions for arguments that are known to be valid.
func newSim(t *testing.T, n api.Net) *net.Sim {
	t.Helper()
	s, e := net.New(n)
	if e != api.OK {
		t.Fatalf("New(%v): the error %d", n, e)
	}
	return s
}

func resume(t *testing.T, n api.Net, x net.Image) *net.Sim {
	t.Helper()
	s, e := net.Resume(n, x)
	if e != api.OK {
		t.Fatalf("Resume(%v, %v): the error %d", n, x, e)
	}
	return s
}

func step(t *testing.T, s *net.Sim, inputs []int) []int {
	t.Helper()
	l, e := s.Step(inputs)
	if e != api.OK {
		t.Fatalf("Step(%v): the error %d", inputs, e)
	}
	return l
}

func image(t *testing.T, s *net.Sim) net.Image {
	t.Helper()
	x, e := s.Image()
	if e != api.OK {
		t.Fatalf("Image: the error %d", e)
	}
	return x
}

func run(t *testing.T, n api.Net, inputs []api.Event, ticks int) []api.Event {
	t.Helper()
	l, e := net.Run(n, inputs, ticks)
	if e != api.OK {
		t.Fatalf("Run(%v, %v, %d): the error %d", n, inputs, ticks, e)
	}
	return l
}

func driven(t *testing.T, n api.Net, inputs []api.Event, ticks int) []api.Event {
	t.Helper()
	l, e := net.Driven(n, inputs, ticks)
	if e != api.OK {
		t.Fatalf("Driven(%v, %v, %d): the error %d", n, inputs, ticks, e)
	}
	return l
}

// runs are both functions that return the spikes of some ticks.
var runs = map[string]func(api.Net, []api.Event, int) ([]api.Event, api.Errno){"Run": net.Run, "Driven": net.Driven}
