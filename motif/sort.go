package motif

import "ganglion/api"

// Sort returns a network that sorts the events of n inputs: the neuron i answers the event with the number i.
func Sort(n int) (api.Net, api.Errno) {
	if !among(n, 1, MaxSort) {
		return api.Net{}, api.ErrRange
	}
	b, of := start(n), once()
	for i := range n {
		b.neuron(of(i + 1))
	}
	b.stills()
	for i := range n {
		for k := range n {
			b.synapse(input(k), i, 1, 1)
		}
	}
	return b.net, api.OK
}
