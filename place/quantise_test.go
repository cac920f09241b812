package place_test

import (
	"slices"
	"testing"

	"ganglion/api"
	"ganglion/net"
	"ganglion/place"
)

// quantise is Quantise for arguments that are known to be valid.
func quantise(t *testing.T, n api.Net, bits int) place.Quant {
	t.Helper()
	q, e := place.Quantise(n, bits)
	if e != api.OK {
		t.Fatalf("Quantise(%v, %d): the error %d", n, bits, e)
	}
	return q
}

// weighted is a network whose synapses lead to the neuron 1 and have these weights.
func weighted(weights ...int) api.Net {
	n := api.Net{Neurons: neurons(3), Inputs: 1}
	for i, w := range weights {
		n.Synapses = append(n.Synapses, syn(i%4-1, 1, w, i%16+1))
	}
	return n
}

// P7.2: the examples of the chapter, and weights at all edges.
func TestP7_2Quantise(t *testing.T) {
	for name, x := range map[string]struct {
		weights    []int
		bits       int
		scale, off int
		quots      []int
	}{
		"the example with 3 bits":       {[]int{6}, 3, 2, 0, []int{3}},
		"the example with 2 bits":       {[]int{6}, 2, 4, 2, []int{1}},
		"no synapses":                   {nil, 2, 1, 0, nil},
		"only zeros":                    {[]int{0, 0}, 2, 1, 0, []int{0, 0}},
		"all fit":                       {[]int{7, -8, 0}, 4, 1, 0, []int{7, -8, 0}},
		"one is too great":              {[]int{8}, 4, 2, 0, []int{4}},
		"one is too small":              {[]int{-9}, 4, 2, 1, []int{-4}},
		"the greatest decides":          {[]int{-8, 15, 1}, 4, 2, 1, []int{-4, 7, 0}},
		"the least decides":             {[]int{-17, 7, 1}, 4, 2, 1, []int{-8, 3, 0}},
		"two thirds":                    {[]int{-25, 2, -2, 1, -1}, 4, 3, 1, []int{-8, 1, -1, 0, 0}},
		"halves go towards 0":           {[]int{30, 2, -2, 6, -6, 3, -3}, 4, 4, 2, []int{7, 0, 0, 1, -1, 1, -1}},
		"two bits, below 0":             {[]int{-6}, 2, 3, 0, []int{-2}},
		"two bits, both":                {[]int{-6, 6}, 2, 4, 2, []int{-1, 1}},
		"the greatest of all":           {[]int{32768}, 16, 2, 0, []int{16384}},
		"the least of all":              {[]int{-32768}, 16, 1, 0, []int{-32768}},
		"the greatest that fits":        {[]int{32767}, 16, 1, 0, []int{32767}},
		"above MaxWeight":               {[]int{32768, 32767}, 15, 4, 1, []int{8192, 8192}},
		"above MaxWeight with a scale":  {[]int{32766}, 15, 2, 0, []int{16383}},
		"the least above MaxWeight":     {[]int{-32767, 32764}, 14, 4, 1, []int{-8192, 8191}},
		"the greatest with two bits":    {[]int{32768}, 2, 21846, 10922, []int{1}},
		"the least with two bits":       {[]int{-32768}, 2, 13108, 6552, []int{-2}},
		"both with two bits":            {[]int{-32768, 32768}, 2, 21846, 10922, []int{-1, 1}},
		"a scale that is leapt over":    {[]int{24577, -32768}, 2, 21846, 10922, []int{1, -1}},
		"the scale before it":           {[]int{24576, -32768}, 2, 16384, 8192, []int{1, -2}},
		"the weight before it":          {[]int{24573, -32768}, 2, 16382, 8191, []int{1, -2}},
		"a quotient that is not 16384":  {[]int{32768}, 15, 4, 0, []int{8192}},
		"a quotient of -16384":          {[]int{-32768}, 15, 2, 0, []int{-16384}},
		"a quotient that is just -8192": {[]int{-32768, 5}, 14, 4, 1, []int{-8192, 1}},
	} {
		n := weighted(x.weights...)
		q := quantise(t, n, x.bits)
		if !slices.Equal(q.Scales, []int{1, x.scale, 1}) || !slices.Equal(q.Errors, []int{0, x.off, 0}) || !slices.Equal(q.Quots, x.quots) || q.Exact != (x.off == 0) {
			t.Errorf("%s: %v, want the scale %d, the error %d, %v", name, q, x.scale, x.off, x.quots)
			continue
		}
		for i := range x.quots {
			n.Synapses[i].Weight = x.quots[i] * x.scale
		}
		if !sameNet(q.Net, n) {
			t.Errorf("%s: the network %v, want %v", name, q.Net, n)
		}
	}
}

// P7.2: each neuron has its own scale, which only the synapses that lead to it decide.
func TestP7_2Neurons(t *testing.T) {
	n := api.Net{Neurons: neurons(3), Inputs: 1, Synapses: []api.Synapse{syn(0, 1, 3, 1), syn(1, 0, 12, 2), syn(-1, 2, -4, 1), syn(2, 1, -1, 1), syn(-1, 0, -4, 1), syn(0, 0, 7, 1)}}
	q := quantise(t, n, 3)
	if !slices.Equal(q.Scales, []int{4, 1, 1}) || !slices.Equal(q.Quots, []int{3, 3, -4, -1, -1, 2}) || !slices.Equal(q.Errors, []int{1, 0, 0}) || q.Exact {
		t.Errorf("Quantise: %v", q)
	}
}

// P7.2: the network comes before the bits.
func TestP7_2Errors(t *testing.T) {
	for _, x := range []struct {
		n    api.Net
		bits int
		want api.Errno
	}{
		{chain(), 2, api.OK}, {chain(), 16, api.OK}, {chain(), 1, api.ErrRange}, {chain(), 17, api.ErrRange}, {chain(), -3, api.ErrRange}, {api.Net{}, 1, api.ErrArg}, {weighted(32769), 1, api.ErrRange},
		{api.Net{Neurons: neurons(1025)}, 0, api.ErrMany}, {api.Net{Neurons: neurons(1024), Inputs: 256}, 8, api.OK},
	} {
		if q, e := place.Quantise(x.n, x.bits); e != x.want || e != api.OK && !sameQuant(q, place.Quant{}) {
			t.Errorf("Quantise with %d bits: %v, %d, want %d", x.bits, q, e, x.want)
		}
	}
}

// P7.2, R4: a quantised network is new memory, also if nothing changes.
func TestP7_2NewMemory(t *testing.T) {
	n := chain()
	q := quantise(t, n, 16)
	q.Net.Neurons[0].Bias, q.Net.Synapses[0].Weight, q.Quots[0], q.Scales[0] = 9, 9, 9, 9
	if !sameNet(n, chain()) {
		t.Errorf("the network %v shares memory with what it was quantised to", n)
	}
	if q.Scales[1] != 1 || q.Errors[0] != 0 || q.Quots[1] != 6 {
		t.Errorf("the results share memory: %v", q)
	}
}

// P7.2: networks are quantised as the definition says.
func TestP7_2Model(t *testing.T) {
	var g generator = 79
	exact, scaled := 0, 0
	for range 20000 {
		n, bits := g.network(4, 8, 1<<g.from(1, 7)), g.from(2, 9)
		q, want := quantise(t, n, bits), quantiseModel(n, bits)
		if !sameQuant(q, want) {
			t.Fatalf("Quantise(%v, %d): %v, want %v", n, bits, q, want)
		}
		if q.Exact {
			exact++
		}
		if slices.Max(q.Scales) > 1 {
			scaled++
		}
	}
	if exact < 2000 || scaled < 2000 {
		t.Errorf("%d networks were exact, %d scaled", exact, scaled)
	}
}

// P7.6: the errors are at most half a scale, no smaller scale is possible, and exact is what did not change.
func TestP7_6Errors(t *testing.T) {
	var g generator = 83
	exact := 0
	for range 2000 {
		n, bits := g.network(5, 8, 1<<g.below(16)), g.from(2, 16)
		q := quantise(t, n, bits)
		if e := net.Check(q.Net); e != api.OK {
			t.Fatalf("Quantise(%v, %d): the network has the error %d", n, bits, e)
		}
		if q.Exact != sameNet(n, q.Net) || q.Exact != (slices.Max(q.Errors) == 0) {
			t.Fatalf("Quantise(%v, %d): %v", n, bits, q)
		}
		if q.Exact {
			exact++
		}
		for i, scale := range q.Scales {
			if 2*q.Errors[i] > scale || scale == 1 && q.Errors[i] != 0 {
				t.Fatalf("Quantise(%v, %d): the scale %d, the error %d", n, bits, scale, q.Errors[i])
			}
			least, most := 0, 0
			for _, w := range weightsOf(n, i) {
				least, most = min(least, w), max(most, w)
			}
			for s := max(1, scale-50); s < scale; s++ {
				if scaleFits([]int{least, most}, s, bits) {
					t.Fatalf("Quantise(%v, %d): the scale %d, where %d is enough", n, bits, scale, s)
				}
			}
		}
		for i, s := range n.Synapses {
			off := abs(s.Weight - q.Net.Synapses[i].Weight)
			if off > q.Errors[s.To] || !among(q.Quots[i], -(1<<(bits-1)), 1<<(bits-1)-1) || q.Net.Synapses[i].Weight != q.Quots[i]*q.Scales[s.To] {
				t.Fatalf("Quantise(%v, %d): the synapse %d: %v", n, bits, i, q)
			}
		}
	}
	if exact < 300 || exact > 1700 {
		t.Errorf("%d of 2000 networks were exact", exact)
	}
}

// P7.6, G1: an exact network has the same spikes, also if its scales are above 1.
func TestP7_6SameSpikes(t *testing.T) {
	var g generator = 89
	spikes := 0
	for range 300 {
		// A weight of 62 needs the scale 2, and behind it all even weights are exact.
		n := g.network(5, 20, 15)
		for i := range n.Synapses {
			n.Synapses[i].Weight *= 2
		}
		for i := range n.Neurons {
			n.Synapses = append(n.Synapses, syn(g.below(len(n.Neurons)), i, 62, g.from(1, 16)))
		}
		q := quantise(t, n, 6)
		var inputs []api.Event
		for tick := range 20 {
			for id := range n.Inputs {
				inputs = append(inputs, api.Event{Tick: tick, Id: id})
			}
		}
		a, e := net.Run(n, inputs, 40)
		b, f := net.Run(q.Net, inputs, 40)
		if e != api.OK || f != api.OK || !q.Exact || slices.Min(q.Scales) != 2 || !slices.Equal(a, b) {
			t.Fatalf("%v with %v: %v, %d, quantised %v, %d", n, inputs, a, e, b, f)
		}
		spikes += len(a)
	}
	if spikes < 1000 {
		t.Errorf("only %d spikes", spikes)
	}
}
