package net

import (
	"cmp"
	"sort"

	"ganglion/api"
	"ganglion/neuron"
)

// MaxLong is the greatest number of ticks of Driven.
const MaxLong = 1 << 30

// Driven returns the same as Run, by events.
func Driven(n api.Net, inputs []api.Event, ticks int) ([]api.Event, api.Errno) {
	if e := checkRun(n, inputs, ticks, MaxLong); e != api.OK {
		return nil, e
	}
	d := newDrive(n, ticks)
	for _, x := range inputs {
		d.ask(x.Tick)
	}
	var spikes []api.Event
	for now, more := d.next(); more; now, more = d.next() {
		var ids []int
		ids, inputs = take(inputs, now)
		for _, i := range d.tick(now, ids) {
			spikes = append(spikes, api.Event{Tick: now, Id: i})
		}
		if len(spikes) > api.MaxEvents {
			return nil, api.ErrLong
		}
	}
	return spikes, api.OK
}

// cell is a neuron whose ticks are put off until something happens to it.
type cell struct {
	tick  int       // the next tick that it does
	state api.State // behind the tick before that
	wake  int       // up to this tick it has no spike, if nothing arrives; or never
	ahead api.State // with which it begins the tick wake then
}

// never is the wake of a neuron that only an arrival can change.
const never = -1

// drive is a simulation by events: it does only those ticks of a neuron in which something may happen.
type drive struct {
	neurons []api.Params
	wires   wires
	cells   []cell
	due     ring[int]
	called  ring[bool] // to which neurons something is due, also if the sum is 0
	ticks   int
	agenda  heap[int]    // the ticks in which something may happen
	asked   map[int]bool // those that are in the agenda, so that each of them is in it once
}

// newDrive returns a simulation by events of a valid network at its beginning.
func newDrive(n api.Net, ticks int) *drive {
	d := &drive{
		neurons: n.Neurons,
		wires:   wire(n),
		cells:   make([]cell, len(n.Neurons)),
		due:     newRing[int](len(n.Neurons)),
		called:  newRing[bool](len(n.Neurons)),
		ticks:   ticks,
		agenda:  heap[int]{less: cmp.Less[int]},
		asked:   map[int]bool{},
	}
	for i := range d.cells {
		d.lookAhead(i, shortest)
	}
	return d
}

// ask puts a tick into the agenda, if it is one of those that are simulated.
func (d *drive) ask(tick int) {
	if tick < d.ticks && !d.asked[tick] {
		d.asked[tick] = true
		d.agenda.push(tick)
	}
}

// next takes the first tick out of the agenda, if there is one.
func (d *drive) next() (int, bool) {
	tick, ok := d.agenda.pop()
	delete(d.asked, tick)
	return tick, ok
}

// tick does a tick with these inputs, and returns the neurons that have a spike in it.
func (d *drive) tick(now int, inputs []int) []int {
	var spikes []int
	called := d.called.row(now)
	for i := range d.cells {
		if (called[i] || d.cells[i].wake == now) && d.visit(i, now) {
			spikes = append(spikes, i)
		}
	}
	// What is sent with the greatest delay goes into these same rows.
	d.due.over(now)
	d.called.over(now)
	for _, i := range spikes {
		d.send(i, now)
	}
	for _, x := range inputs {
		d.send(-1-x, now)
	}
	return spikes
}

// send adds what a source sends in this tick to what is due.
func (d *drive) send(source, now int) {
	for s := range d.wires.from(source) {
		at := now + s.Delay
		d.due.row(at)[s.To] += s.Weight
		if called := d.called.row(at); !called[s.To] {
			called[s.To] = true
			d.ask(at)
		}
	}
}

// visit does all ticks of a neuron up to this one, and returns whether it has a spike in this one.
func (d *drive) visit(i, now int) bool {
	p, c := d.neurons[i], &d.cells[i]
	passed, state := now-c.tick, c.ahead
	if c.wake != now {
		state, _, _ = glide(p, c.state, passed)
	}
	after, spike, _ := neuron.Tick(p, state, d.due.row(now)[i])
	c.tick, c.state = now+1, after
	d.lookAhead(i, max(shortest, 2*passed))
	return spike
}

// shortest is how many ticks a neuron looks ahead at least.
const shortest = 4

// lookAhead finds out what a neuron does in so many ticks if nothing arrives. They are not many more than have passed
// since it looked ahead before, so that little is lost if something arrives soon.
func (d *drive) lookAhead(i, ticks int) {
	c := &d.cells[i]
	ahead, done, still := glide(d.neurons[i], c.state, ticks)
	if still {
		c.wake = never
		return
	}
	c.wake, c.ahead = c.tick+done, ahead
	d.ask(c.wake)
}

// glide lets a neuron do silent ticks, at most n, up to the first one with a spike, and returns the state behind them
// and how many they are; or it finds that from then on the state stays as it is, for ever (still).
func glide(p api.Params, s api.State, n int) (after api.State, done int, still bool) {
	for ; done < n && s.Rest > 0; done++ {
		s, _, _ = neuron.Tick(p, s, 0)
	}
	for done < n {
		next, spike, _ := neuron.Tick(p, s, 0)
		if spike || next == s {
			return s, done, !spike
		}
		change := next.V - s.V
		k := alike(p, s.V, change, n-done)
		s.V += k * change
		done += k
	}
	return s, done, false
}

// alike returns how many silent ticks, of at most n, change a potential v by the same as the first of them, without a
// spike. The greater a potential is, the less a silent tick adds to it; but what comes out is not less. So, if two
// potentials are changed by the same, and without a spike, then this holds for all those between them.
func alike(p api.Params, v, change, n int) int {
	differs := func(k int) bool {
		from := v + k*change
		after, spike, e := neuron.Tick(p, api.State{V: from}, 0)
		return e != api.OK || spike || after.V != from+change
	}
	far := 1
	for far < n && !differs(far) {
		far *= 2
	}
	known := far/2 + 1
	return known + sort.Search(min(far, n)-known, func(k int) bool { return differs(known + k) })
}
