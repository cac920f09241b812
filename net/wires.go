package net

import (
	"iter"
	"slices"

	"ganglion/api"
)

// wires are the lists of the synapses of each source that has some.
type wires map[int][]api.Synapse

// wire sorts the synapses of a network by their sources.
func wire(n api.Net) wires {
	w := wires{}
	for _, s := range n.Synapses {
		w[s.From] = append(w[s.From], s)
	}
	return w
}

// from yields the synapses of a source.
func (w wires) from(source int) iter.Seq[api.Synapse] {
	return func(yield func(api.Synapse) bool) {
		for _, s := range w[source] {
			if !yield(s) {
				return
			}
		}
	}
}

// clone returns wires that share no memory with w.
func (w wires) clone() wires {
	c := make(wires, len(w))
	for source, l := range w {
		c[source] = slices.Clone(l)
	}
	return c
}

// ring has a row for each of MaxDelay ticks that follow each other, with an element for each neuron. As no synapse
// takes longer, these are enough.
type ring[T any] [api.MaxDelay][]T

// newRing returns a ring for so many neurons.
func newRing[T any](neurons int) ring[T] {
	var r ring[T]
	for i := range r {
		r[i] = make([]T, neurons)
	}
	return r
}

// row returns the row of a tick.
func (r *ring[T]) row(tick int) []T { return r[tick%api.MaxDelay] }

// over empties the row of a tick that is over, which makes it the last row.
func (r *ring[T]) over(tick int) { clear(r.row(tick)) }

// clone returns a ring that shares no memory with r.
func (r *ring[T]) clone() ring[T] {
	var c ring[T]
	for i, row := range r {
		c[i] = slices.Clone(row)
	}
	return c
}
