package net

import (
	"slices"

	"ganglion/api"
	"ganglion/neuron"
)

// Image is the state of a simulation between two ticks.
type Image struct {
	Tick   int
	States []api.State
	Due    [][]int
}

// Sim is a simulation.
type Sim struct {
	self    *Sim // only a simulation that a function of this package made is where it points to
	neurons []api.Params
	inputs  int
	wires   wires
	now     int
	states  []api.State
	due     ring[int]
}

// New returns a simulation.
func New(n api.Net) (*Sim, api.Errno) {
	if e := Check(n); e != api.OK {
		return nil, e
	}
	return begin(n), api.OK
}

// begin returns a simulation of a valid network at its beginning.
func begin(n api.Net) *Sim {
	s := &Sim{
		neurons: slices.Clone(n.Neurons),
		inputs:  n.Inputs,
		wires:   wire(n),
		states:  make([]api.State, len(n.Neurons)),
		due:     newRing[int](len(n.Neurons)),
	}
	s.self = s
	return s
}

// Resume returns a simulation in a state.
func Resume(n api.Net, x Image) (*Sim, api.Errno) {
	if e := Check(n); e != api.OK {
		return nil, e
	}
	if e := checkImage(n, x); e != api.OK {
		return nil, e
	}
	s := begin(n)
	s.now = x.Tick
	copy(s.states, x.States)
	for d, row := range x.Due {
		copy(s.due.row(s.now+d), row)
	}
	return s, api.OK
}

// mostDue is the greatest sum that can be due: that of all synapses that a network can have.
const mostDue = api.MaxSynapses * api.MaxWeight

// checkImage checks an image of a valid network.
func checkImage(n api.Net, x Image) api.Errno {
	if !among(x.Tick, 0, api.MaxTicks) {
		return api.ErrRange
	}
	if len(x.States) != len(n.Neurons) || len(x.Due) != api.MaxDelay {
		return api.ErrShape
	}
	for _, row := range x.Due {
		if len(row) != len(n.Neurons) {
			return api.ErrShape
		}
	}
	for i, s := range x.States {
		if neuron.Valid(n.Neurons[i], s) != api.OK {
			return api.ErrRange
		}
	}
	for _, row := range x.Due {
		for _, sum := range row {
			if !among(sum, -mostDue, mostDue) {
				return api.ErrRange
			}
		}
	}
	return api.OK
}

// made reports whether a function of this package made the simulation.
func (s *Sim) made() bool { return s != nil && s.self == s }

// Step does a tick.
func (s *Sim) Step(inputs []int) ([]int, api.Errno) {
	if !s.made() {
		return nil, api.ErrNil
	}
	if s.now == api.MaxTicks {
		return nil, api.ErrLong
	}
	for i, x := range inputs {
		if !among(x, 0, s.inputs-1) {
			return nil, api.ErrRange
		}
		if i > 0 && x <= inputs[i-1] {
			return nil, api.ErrArg
		}
	}
	return s.tick(inputs), api.OK
}

// tick is Step with inputs that are known to be valid.
func (s *Sim) tick(inputs []int) []int {
	var spikes []int
	row := s.due.row(s.now)
	for i, p := range s.neurons {
		after, spike, _ := neuron.Tick(p, s.states[i], row[i])
		s.states[i] = after
		if spike {
			spikes = append(spikes, i)
		}
	}
	// What is sent with the greatest delay goes into this same row, so it has to be empty before.
	s.due.over(s.now)
	for _, i := range spikes {
		s.send(i)
	}
	for _, x := range inputs {
		s.send(-1 - x)
	}
	s.now++
	return spikes
}

// send adds what a source sends in this tick to what is due.
func (s *Sim) send(source int) {
	for x := range s.wires.from(source) {
		s.due.row(s.now + x.Delay)[x.To] += x.Weight
	}
}

// Now returns the number of the next tick.
func (s *Sim) Now() int {
	if !s.made() {
		return 0
	}
	return s.now
}

// Image returns the state of the simulation.
func (s *Sim) Image() (Image, api.Errno) {
	if !s.made() {
		return Image{}, api.ErrNil
	}
	x := Image{Tick: s.now, States: slices.Clone(s.states)}
	for d := range api.MaxDelay {
		x.Due = append(x.Due, slices.Clone(s.due.row(s.now+d)))
	}
	return x, api.OK
}

// Copy returns an independent simulation.
func (s *Sim) Copy() *Sim {
	if !s.made() {
		return nil
	}
	c := &Sim{
		neurons: slices.Clone(s.neurons),
		inputs:  s.inputs,
		wires:   s.wires.clone(),
		now:     s.now,
		states:  slices.Clone(s.states),
		due:     s.due.clone(),
	}
	c.self = c
	return c
}
