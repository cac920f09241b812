package motif

import "ganglion/api"

// Horn returns a network that draws the conclusions of clauses about n things.
func Horn(n int, l []Clause) (api.Net, api.Errno) {
	if !among(n, 1, MaxVars) {
		return api.Net{}, api.ErrRange
	}
	if len(l) > MaxClauses {
		return api.Net{}, api.ErrMany
	}
	for _, x := range l {
		if e := checkClause(n, x); e != api.OK {
			return api.Net{}, e
		}
	}
	b, of := start(1), once()
	neurons(n+1, of, 1, b.neuron)
	for _, x := range l {
		b.neuron(of(max(len(x.If), 1)))
	}
	b.stills()
	for c, x := range l {
		conclude(n, n+1+c, x, b.synapse)
	}
	return b.net, api.OK
}

// checkClause returns the error of a clause about n things.
func checkClause(n int, x Clause) api.Errno {
	if len(x.If) > MaxIf {
		return api.ErrMany
	}
	if !below(x.If, n) {
		return api.ErrNone
	}
	if !different(x.If) {
		return api.ErrHave
	}
	if !among(x.Then, -1, n-1) {
		return api.ErrNone
	}
	return api.OK
}

// conclude lays the synapses of a clause, whose neuron is the one given; the neuron n is for what must not be.
func conclude(n, neuron int, x Clause, lay func(from, to, weight, delay int)) {
	for _, thing := range x.If {
		lay(thing, neuron, 1, 1)
	}
	if len(x.If) == 0 {
		lay(input(0), neuron, 1, 1)
	}
	to := x.Then
	if to < 0 {
		to = n
	}
	lay(neuron, to, 1, 1)
}
