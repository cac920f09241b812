package motif

import "ganglion/api"

// symbolTicks is how many ticks a symbol takes.
const symbolTicks = 3

// checkAuto returns the error of an automaton.
func checkAuto(a Auto) api.Errno {
	if !among(len(a.Next), 1, MaxStates) {
		return api.ErrRange
	}
	if len(a.Accept) != len(a.Next) {
		return api.ErrShape
	}
	if !among(len(a.Next[0]), 1, MaxSymbols) {
		return api.ErrRange
	}
	for _, row := range a.Next {
		if len(row) != len(a.Next[0]) {
			return api.ErrShape
		}
	}
	for _, row := range a.Next {
		if !below(row, len(a.Next)) {
			return api.ErrNone
		}
	}
	if !among(a.Start, 0, len(a.Next)-1) {
		return api.ErrNone
	}
	return api.OK
}

// Machine returns a network that is a finite automaton.
func Machine(a Auto) (api.Net, api.Errno) {
	if e := checkAuto(a); e != api.OK {
		return api.Net{}, e
	}
	states, symbols := len(a.Next), len(a.Next[0])
	b := start(symbols + 1)
	neurons(states, gate(), 1, b.neuron)
	neurons(states*symbols, gate(), 2, b.neuron)
	neurons(1, gate(), 1, b.neuron)
	b.synapse(input(symbols), a.Start, 1, 1)
	for s, row := range a.Next {
		for c, next := range row {
			move := states + symbols*s + c
			b.synapse(s, move, 1, 1)
			b.synapse(input(c), move, 1, 2)
			b.synapse(move, next, 1, 2)
		}
	}
	for s, good := range a.Accept {
		if good {
			b.synapse(s, states+states*symbols, 1, 1)
		}
	}
	return b.net, api.OK
}

// Word returns the events for a word: its symbols, one every three ticks, and the start.
func Word(a Auto, word []int) ([]api.Event, api.Errno) {
	if e := checkAuto(a); e != api.OK {
		return nil, e
	}
	symbols := len(a.Next[0])
	if len(word) > MaxWord {
		return nil, api.ErrLong
	}
	if !below(word, symbols) {
		return nil, api.ErrNone
	}
	begin := api.Event{Tick: 0, Id: symbols}
	if len(word) == 0 {
		return []api.Event{begin}, api.OK
	}
	// The start has the greatest number of all inputs, so it is behind the symbol of its tick.
	out := []api.Event{{Tick: 0, Id: word[0]}, begin}
	for k, c := range word[1:] {
		out = append(out, api.Event{Tick: symbolTicks * (k + 1), Id: c})
	}
	return out, api.OK
}

// States returns the states that spikes say, in their order.
func States(a Auto, spikes []api.Event) ([]int, api.Errno) {
	if e := checkAuto(a); e != api.OK {
		return nil, e
	}
	var out []int
	for _, x := range spikes {
		if among(x.Id, 0, len(a.Next)-1) && onBeat(x.Tick) {
			out = append(out, x.Id)
		}
	}
	return out, api.OK
}

// onBeat says whether states spike in a tick: whether it is 1 modulo 3, where the remainder of Go is negative for negative ticks.
func onBeat(tick int) bool {
	return (tick%symbolTicks+symbolTicks)%symbolTicks == 1
}
