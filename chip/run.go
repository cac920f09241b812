package chip

import (
	"iter"
	"slices"

	"ganglion/api"
	"ganglion/net"
	"ganglion/place"
)

// Run returns the spikes of some ticks on a chip, and what was done.
func Run(n api.Net, c place.Chip, cores []int, inputs []api.Event, ticks int) ([]api.Event, Work, api.Errno) {
	m, e := begin(n, c, cores, inputs, ticks)
	if e != api.OK {
		return nil, Work{}, e
	}
	var l []api.Event
	for x := range m.play(inputs, ticks) {
		for _, i := range x.spikes {
			l = append(l, api.Event{Tick: x.tick, Id: i})
		}
	}
	if m.tooLong() {
		return nil, Work{}, api.ErrLong
	}
	return l, m.work, api.OK
}

// Compare returns where a run on a chip differs from the network.
func Compare(n api.Net, c place.Chip, cores []int, inputs []api.Event, ticks int) (Difference, bool, api.Errno) {
	m, e := begin(n, c, cores, inputs, ticks)
	if e != api.OK {
		return Difference{}, false, e
	}
	// A simulation, and not net.Run, as the network itself may have more than MaxEvents spikes. There is no error: the
	// network was mapped.
	s, _ := net.New(n)
	var d Difference
	differs := false
	for x := range m.play(inputs, ticks) {
		if differs { // only the machine has to go on, as it can have too many spikes still
			continue
		}
		// There is no error: the inputs were examined.
		spikes, _ := s.Step(x.inputs)
		if !slices.Equal(spikes, x.spikes) {
			d, differs = Difference{Tick: x.tick, Network: spikes, Chip: x.spikes}, true
		}
	}
	if m.tooLong() {
		return Difference{}, false, api.ErrLong
	}
	return d, differs, api.OK
}

// begin returns a machine before the tick 0, if the arguments of a run are valid.
func begin(n api.Net, c place.Chip, cores []int, inputs []api.Event, ticks int) (*Machine, api.Errno) {
	m, e := New(n, c, cores)
	if e != api.OK {
		return nil, e
	}
	if !among(ticks, 0, api.MaxTicks) {
		return nil, api.ErrRange
	}
	// In a run of no ticks the inputs are examined, and nothing else happens.
	if _, e := net.Run(n, inputs, 0); e != api.OK {
		return nil, e
	}
	return m, api.OK
}

// moment is a tick of a run: the inputs that have an event in it, and the neurons that have a spike.
type moment struct {
	tick   int
	inputs []int
	spikes []int
}

// play lets the machine do ticks up to a tick, and yields them; it ends when there are too many spikes.
func (m *Machine) play(events []api.Event, end int) iter.Seq[moment] {
	return func(yield func(moment) bool) {
		for m.now < end && !m.tooLong() {
			x := moment{tick: m.now}
			for len(events) > 0 && events[0].Tick == x.tick {
				x.inputs = append(x.inputs, events[0].Id)
				events = events[1:]
			}
			x.spikes = m.tick(x.inputs)
			if !yield(x) {
				return
			}
		}
	}
}

// tooLong reports whether the machine had more spikes than a list of events can have.
func (m *Machine) tooLong() bool { return m.work.Spikes > api.MaxEvents }

// Energy returns the energy of what was done.
func Energy(w Work, p Prices) (int, api.Errno) {
	if !upTo(MaxPrice, p.Update, p.Spike, p.Hop, p.Row, p.Step) ||
		!upTo(maxCount, w.Ticks, w.Updates, w.Spikes, w.Packets, w.Hops, w.Arrivals, w.Rows, w.Steps, w.Most) {
		return 0, api.ErrRange
	}
	return w.Updates*p.Update + w.Spikes*p.Spike + w.Hops*p.Hop + w.Rows*p.Row + w.Steps*p.Step, api.OK
}

// upTo reports whether all numbers are from 0 to most.
func upTo(most int, l ...int) bool {
	return !slices.ContainsFunc(l, func(x int) bool { return !among(x, 0, most) })
}
