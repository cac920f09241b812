// Package neuron is layer 1: neurons, integer automata. See shared/doc/01-neuron.md.
package neuron

import "ganglion/api"

// leak is a kind of leak: what it makes of a potential, and which numbers Leak it takes.
type leak struct {
	least int
	most  int
	of    func(v, amount int) int
}

// leakOf returns the leak of a kind, and whether there is such a kind.
func leakOf(kind int) (leak, bool) {
	switch kind {
	case api.LeakNone:
		return leak{0, 0, keep}, true
	case api.LeakLine:
		return leak{1, api.MaxV, approach}, true
	case api.LeakShare:
		return leak{1, 256, lose}, true
	}
	return leak{}, false
}

func keep(v, _ int) int { return v }

func approach(v, amount int) int {
	if v > 0 {
		return max(v-amount, 0)
	}
	return min(v+amount, 0)
}

// lose relies on Go's division, which rounds towards 0 as the document asks.
func lose(v, amount int) int { return v - v*amount/256 }

// Check checks a neuron.
func Check(p api.Params) api.Errno {
	l, known := leakOf(p.LeakKind)
	if !known || p.ResetKind != api.ResetTo && p.ResetKind != api.ResetSub {
		return api.ErrArg
	}
	if !among(p.Leak, l.least, l.most) || !among(p.Bias, -api.MaxV, api.MaxV) ||
		!among(p.Floor, -api.MaxV, 0) || !among(p.Thresh, 1, api.MaxV) || !among(p.Rest, 0, api.MaxRest) {
		return api.ErrRange
	}
	least, most := p.Floor, p.Thresh-1
	if p.ResetKind == api.ResetSub {
		least, most = 0, 0
	}
	if !among(p.Reset, least, most) {
		return api.ErrRange
	}
	return api.OK
}

// among reports whether x is from least to most.
func among(x, least, most int) bool { return least <= x && x <= most }

// Valid checks a state of a neuron.
func Valid(p api.Params, s api.State) api.Errno {
	if e := Check(p); e != api.OK {
		return e
	}
	if !among(s.V, p.Floor, api.MaxV) || !among(s.Rest, 0, p.Rest) {
		return api.ErrRange
	}
	return api.OK
}

// Leak returns what the leak makes of a potential.
func Leak(p api.Params, v int) (int, api.Errno) {
	if e := Check(p); e != api.OK {
		return 0, e
	}
	if !among(v, -api.MaxV, api.MaxV) {
		return 0, api.ErrRange
	}
	l, _ := leakOf(p.LeakKind)
	return l.of(v, p.Leak), api.OK
}

// Tick returns the state behind a tick, and whether there was a spike.
func Tick(p api.Params, s api.State, input int) (api.State, bool, api.Errno) {
	if e := Valid(p, s); e != api.OK {
		return api.State{}, false, e
	}
	l, _ := leakOf(p.LeakKind)
	after, spike := step(p, l, s, input)
	return after, spike, api.OK
}

// enough is an input that takes every potential to a bound, whatever the potential and the bias are.
const enough = 4 * api.MaxV

// step is Tick for a neuron and a state that are known to be valid.
func step(p api.Params, l leak, s api.State, input int) (api.State, bool) {
	if s.Rest > 0 {
		return api.State{V: s.V, Rest: s.Rest - 1}, false
	}
	// A greater input would change nothing more, but could make the sum overflow.
	v := l.of(s.V, p.Leak) + within(input, -enough, enough) + p.Bias
	v = within(v, p.Floor, api.MaxV)
	if v < p.Thresh {
		return api.State{V: v}, false
	}
	if p.ResetKind == api.ResetSub {
		return api.State{V: v - p.Thresh, Rest: p.Rest}, true
	}
	return api.State{V: p.Reset, Rest: p.Rest}, true
}

// within returns the number from least to most that is nearest to x.
func within(x, least, most int) int { return max(least, min(x, most)) }
