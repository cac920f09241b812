package motif

import (
	"math"

	"ganglion/api"
)

// Paths returns a network whose spikes say how far each vertex is from the source.
func Paths(n int, l []Edge, source int) (api.Net, api.Errno) {
	if !among(n, 1, MaxVertices) {
		return api.Net{}, api.ErrRange
	}
	if e := checkEdges(n, l); e != api.OK {
		return api.Net{}, e
	}
	if !among(source, 0, n-1) {
		return api.Net{}, api.ErrNone
	}
	b := start(1)
	neurons(n, once(), 1, b.neuron)
	b.synapse(input(0), source, 1, 1)
	b.stills()
	for _, x := range l {
		b.synapse(x.From, x.To, 1, x.Length)
	}
	return b.net, api.OK
}

// checkEdges returns the error of a list of edges between n vertices.
func checkEdges(n int, l []Edge) api.Errno {
	if len(l) > MaxEdges {
		return api.ErrMany
	}
	for _, x := range l {
		if !among(x.From, 0, n-1) || !among(x.To, 0, n-1) {
			return api.ErrNone
		}
		if !among(x.Length, 1, api.MaxDelay) {
			return api.ErrRange
		}
	}
	return api.OK
}

// Distances returns the distances that spikes say, or -1 for a vertex without one.
func Distances(n int, spikes []api.Event) ([]int, api.Errno) {
	if !among(n, 1, MaxVertices) {
		return nil, api.ErrRange
	}
	out := make([]int, n)
	for i := range out {
		out[i] = -1
	}
	var found [MaxVertices]bool
	for _, x := range spikes {
		if among(x.Id, 0, n-1) && !found[x.Id] {
			found[x.Id] = true
			out[x.Id] = less(x.Tick)
		}
	}
	return out, api.OK
}

// less returns one less than a tick; the least number stays as it is, as it must not wrap around.
func less(tick int) int {
	if tick == math.MinInt {
		return tick
	}
	return tick - 1
}

// Before returns for each vertex the one before it on a shortest path, or -1 if there is none.
func Before(n int, l []Edge, distances []int) ([]int, api.Errno) {
	if !among(n, 1, MaxVertices) {
		return nil, api.ErrRange
	}
	if e := checkEdges(n, l); e != api.OK {
		return nil, e
	}
	if len(distances) != n {
		return nil, api.ErrShape
	}
	out := make([]int, n)
	for i := range out {
		out[i] = -1
	}
	for _, x := range l {
		if out[x.To] < 0 && tight(x, distances) {
			out[x.To] = x.From
		}
	}
	return out, api.OK
}

// tight says whether an edge is the last one of a way as long as the distance of its end. It compares the difference, as the sum might wrap around.
func tight(x Edge, distances []int) bool {
	before, to := distances[x.From], distances[x.To]
	return before >= 0 && to > before && to-before == x.Length
}
