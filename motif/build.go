package motif

import "ganglion/api"

// builder puts a network together, neuron by neuron and synapse by synapse.
type builder struct {
	net api.Net
}

// start returns a builder of a network with so many inputs.
func start(inputs int) *builder {
	return &builder{api.Net{Inputs: inputs}}
}

func (b *builder) neuron(p api.Params) {
	b.net.Neurons = append(b.net.Neurons, p)
}

func (b *builder) synapse(from, to, weight, delay int) {
	b.net.Synapses = append(b.net.Synapses, api.Synapse{From: from, To: to, Weight: weight, Delay: delay})
}

// still lets the neuron i silence itself for good, once it has had a spike.
func (b *builder) still(i int) {
	b.synapse(i, i, -api.MaxWeight, 1)
}

// stills does so for all neurons.
func (b *builder) stills() {
	each(len(b.net.Neurons), b.still)
}

// each calls a function with the numbers from 0 to n - 1.
func each(n int, call func(i int)) {
	for i := range n {
		call(i)
	}
}

// neurons adds n neurons of a kind with the same threshold.
func neurons(n int, of kind, thresh int, add func(api.Params)) {
	for range n {
		add(of(thresh))
	}
}

// kind makes neurons that differ by their thresholds only.
type kind func(thresh int) api.Params

// like returns the kind of the neurons that are p but for the threshold.
func like(p api.Params) kind {
	return func(thresh int) api.Params {
		q := p
		q.Thresh = thresh
		return q
	}
}

// once is the kind that spikes a single time, if each neuron has its synapse to itself.
func once() kind {
	return like(api.Params{LeakKind: api.LeakNone, ResetKind: api.ResetTo, Floor: -api.MaxV})
}

// gate is the kind that forgets everything from tick to tick.
func gate() kind {
	return like(api.Params{LeakKind: api.LeakShare, Leak: 256, ResetKind: api.ResetTo})
}

// adder is the kind that keeps what is left above its threshold.
func adder() kind {
	return like(api.Params{LeakKind: api.LeakNone, ResetKind: api.ResetSub})
}

// input returns the number that an input has as From of a synapse.
func input(i int) int { return -1 - i }
