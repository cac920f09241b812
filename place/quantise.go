package place

import (
	"slices"

	"ganglion/api"
	"ganglion/net"
)

// Quantise gives weights fewer bits.
func Quantise(n api.Net, bits int) (Quant, api.Errno) {
	if e := net.Check(n); e != api.OK {
		return Quant{}, e
	}
	if !among(bits, minBits, maxBits) {
		return Quant{}, api.ErrRange
	}
	q := Quant{
		Net:    api.Net{Neurons: slices.Clone(n.Neurons), Inputs: n.Inputs, Synapses: slices.Clone(n.Synapses)},
		Scales: scales(n, bits),
		Errors: make([]int, len(n.Neurons)),
		Exact:  true,
	}
	for i, s := range n.Synapses {
		scale := q.Scales[s.To]
		quot := quotient(s.Weight, scale)
		q.Quots = append(q.Quots, quot)
		q.Net.Synapses[i].Weight = quot * scale
		off := max(s.Weight-quot*scale, quot*scale-s.Weight)
		q.Errors[s.To] = max(q.Errors[s.To], off)
		q.Exact = q.Exact && off == 0
	}
	return q, api.OK
}

// scales returns the scale of each neuron. A greater weight has no smaller quotient, so only the least and the greatest
// weight of a neuron decide; and the weight 0, which always fits, can stand for those that a neuron does not have.
func scales(n api.Net, bits int) []int {
	least, most := make([]int, len(n.Neurons)), make([]int, len(n.Neurons))
	for _, s := range n.Synapses {
		least[s.To] = min(least[s.To], s.Weight)
		most[s.To] = max(most[s.To], s.Weight)
	}
	l := make([]int, len(n.Neurons))
	for i := range l {
		l[i] = 1
		for !fits(least[i], l[i], bits) || !fits(most[i], l[i], bits) {
			l[i]++
		}
	}
	return l
}

// fits reports whether the quotient of a weight and a scale has so many bits, and the weight that it gives is allowed.
// With the scale 2 MaxWeight all quotients are 0, so that there always is a scale with which a weight fits.
func fits(weight, scale, bits int) bool {
	half := 1 << (bits - 1)
	q := quotient(weight, scale)
	return among(q, -half, half-1) && among(q*scale, -api.MaxWeight, api.MaxWeight)
}

// quotient returns the integer nearest to weight / scale; of two the one nearer to 0.
func quotient(weight, scale int) int {
	if weight < 0 {
		return -quotient(-weight, scale)
	}
	return (2*weight + scale - 1) / (2 * scale)
}
