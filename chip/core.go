package chip

import (
	"ganglion/api"
	"ganglion/neuron"
	"ganglion/place"
)

// ring has a row of what is due for each of MaxDelay ticks that follow each other, with a sum for each slot. As no row
// of a core takes longer, these are enough.
type ring [api.MaxDelay][]int

// newRing returns a ring for so many slots.
func newRing(slots int) ring {
	var r ring
	for i := range r {
		r[i] = make([]int, slots)
	}
	return r
}

// row returns the row of a tick.
func (r *ring) row(tick int) []int { return r[tick%api.MaxDelay] }

// cell is a neuron in its slot.
type cell struct {
	number int // in the network
	params api.Params
	scale  int
	state  api.State
}

// core is a core that has neurons.
type core struct {
	cells []cell
	rows  map[int][]place.Row // those of each key
	due   ring
}

// tick lets each neuron do a tick, and returns the numbers of those that have a spike.
func (c *core) tick(now int) []int {
	var spikes []int
	row := c.due.row(now)
	for slot := range c.cells {
		x := &c.cells[slot]
		// There is no error: the neuron is valid, and so is each state behind a valid one.
		after, spike, _ := neuron.Tick(x.params, x.state, row[slot])
		x.state = after
		if spike {
			spikes = append(spikes, x.number)
		}
	}
	// What is sent with the greatest delay goes into this same row, so it has to be empty before.
	clear(row)
	return spikes
}

// receive uses the rows with a key that arrived in this tick, and returns how many there are.
func (c *core) receive(key, now int) int {
	for _, r := range c.rows[key] {
		c.due.row(now + r.Delay)[r.Slot] += r.Weight * c.cells[r.Slot].scale
	}
	return len(c.rows[key])
}
