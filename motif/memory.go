package motif

import "ganglion/api"

// Memory returns a network that remembers pairs: cells of m for cues, and of n for answers.
func Memory(m, n int, l []Pair) (api.Net, api.Errno) {
	if !among(m, 1, MaxCells) || !among(n, 1, MaxCells) {
		return api.Net{}, api.ErrRange
	}
	if len(l) > MaxPairs {
		return api.Net{}, api.ErrMany
	}
	for _, x := range l {
		if e := checkPair(m, n, x); e != api.OK {
			return api.Net{}, e
		}
	}
	b := start(m + 1)
	neurons(n, gate(), 1, b.neuron)
	cues := together(l)
	for j := range n {
		b.synapse(input(m), j, 1, 1)
		for i := range m {
			if cues[j]>>i&1 == 0 {
				b.synapse(input(i), j, -1, 1)
			}
		}
	}
	return b.net, api.OK
}

// checkPair returns the error of a pair.
func checkPair(m, n int, x Pair) api.Errno {
	if !below(x.In, m) || !below(x.Out, n) {
		return api.ErrNone
	}
	if !different(x.In) || !different(x.Out) {
		return api.ErrHave
	}
	return api.OK
}

// together returns for each cell of an answer the bits of the cells of cues that are in a pair with it.
func together(l []Pair) [MaxCells]uint64 {
	var out [MaxCells]uint64
	for _, x := range l {
		var cue uint64
		for _, i := range x.In {
			cue |= 1 << i
		}
		for _, j := range x.Out {
			out[j] |= cue
		}
	}
	return out
}
