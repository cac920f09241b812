package code

import "ganglion/api"

// wiring puts a network together for units with so many inputs; the network has more, behind these.
type wiring struct {
	inputs int
	net    api.Net
}

// lay adds a synapse; all of them have the Delay 1.
func (w *wiring) lay(from, to, weight int) {
	w.net.Synapses = append(w.net.Synapses, api.Synapse{From: from, To: to, Weight: weight, Delay: 1})
}

// weights adds the synapses of a unit from those before it.
func (w *wiring) weights(p place, l []int) {
	for k, x := range l {
		w.lay(w.source(p.first+k), p.unit, x)
	}
}

// source returns the From of one before a unit, by its number in a place.
func (w *wiring) source(number int) int {
	if number < w.inputs {
		return input(number)
	}
	return number - w.inputs
}

// input returns the From of an input.
func input(i int) int { return -1 - i }
