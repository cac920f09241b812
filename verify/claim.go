package verify

import (
	"iter"

	"ganglion/api"
	"ganglion/net"
)

// kind is what a kind of claim stands for.
type kind struct {
	holds   func(c Claim, spikes []api.Event) bool
	certain func(c Claim, verdicts [][]int) int
}

// kinds returns what all kinds of claims stand for.
func kinds() map[int]kind {
	return map[int]kind{
		First: {Claim.isFirst, Claim.surelyFirst},
		Count: {Claim.counts, Claim.surelyCounts},
	}
}

// Check checks a claim.
func Check(n api.Net, c Claim) api.Errno {
	if e := net.Check(n); e != api.OK {
		return e
	}
	if _, known := kinds()[c.Kind]; !known || len(c.Neurons) == 0 {
		return api.ErrArg
	}
	had := make([]bool, len(n.Neurons))
	for _, i := range c.Neurons {
		if !among(i, 0, len(n.Neurons)-1) {
			return api.ErrRange
		}
		if had[i] {
			return api.ErrHave
		}
		had[i] = true
	}
	if c.From < 0 || c.From > c.To || c.To > api.MaxTicks || c.Lo < 0 || c.Hi < 0 {
		return api.ErrRange
	}
	return api.OK
}

// checkWithin returns the error of a claim about the ticks of a run.
func checkWithin(n api.Net, c Claim, ticks int) api.Errno {
	if e := Check(n, c); e != api.OK {
		return e
	}
	if c.To > ticks {
		return api.ErrRange
	}
	return api.OK
}

// Holds reports whether a claim holds.
func Holds(n api.Net, c Claim, spikes []api.Event) (bool, api.Errno) {
	if e := Check(n, c); e != api.OK {
		return false, e
	}
	return kinds()[c.Kind].holds(c, spikes), api.OK
}

// Certain decides a claim by verdicts, if they suffice.
func Certain(n api.Net, sure, may []api.Event, ticks int, c Claim) (int, api.Errno) {
	if e := checkBounds(n, sure, may, ticks); e != api.OK {
		return 0, e
	}
	if e := checkWithin(n, c, ticks); e != api.OK {
		return 0, e
	}
	// Verdicts do not depend on later ticks.
	return kinds()[c.Kind].certain(c, verdicts(n, sure, may, c.To)), api.OK
}

// own yields those spikes that the claim is about.
func (c Claim) own(spikes []api.Event) iter.Seq[api.Event] {
	return func(yield func(api.Event) bool) {
		named := map[int]bool{}
		for _, i := range c.Neurons {
			named[i] = true
		}
		for _, x := range spikes {
			if named[x.Id] && among(x.Tick, c.From, c.To-1) && !yield(x) {
				return
			}
		}
	}
}

// isFirst reports whether a claim of the kind First holds.
func (c Claim) isFirst(spikes []api.Event) bool {
	first, others := c.To, c.To // the tick To stands for none
	for x := range c.own(spikes) {
		if x.Id == c.Neurons[0] {
			first = min(first, x.Tick)
		} else {
			others = min(others, x.Tick)
		}
	}
	return first < others
}

// counts reports whether a claim of the kind Count holds.
func (c Claim) counts(spikes []api.Event) bool {
	n := 0
	for range c.own(spikes) {
		n++
	}
	return among(n, c.Lo, c.Hi)
}

// surelyFirst decides a claim of the kind First: 1, -1, or 0 if the verdicts do not suffice.
func (c Claim) surelyFirst(verdicts [][]int) int {
	silent, alone := true, true // whether the first neuron can have no spike up to here, and none of the others
	for _, row := range verdicts[c.From:c.To] {
		for _, i := range c.Neurons[1:] {
			if row[i] == Always && silent {
				return -1
			}
			alone = alone && row[i] == Never
		}
		switch row[c.Neurons[0]] {
		case Always:
			if alone {
				return 1
			}
			return 0
		case May:
			silent = false
		}
	}
	if silent {
		return -1
	}
	return 0
}

// surelyCounts decides a claim of the kind Count in the same way.
func (c Claim) surelyCounts(verdicts [][]int) int {
	least, most := 0, 0
	for _, row := range verdicts[c.From:c.To] {
		for _, i := range c.Neurons {
			if row[i] == Always {
				least++
			}
			if row[i] != Never {
				most++
			}
		}
	}
	switch {
	case c.Lo <= least && most <= c.Hi:
		return 1
	case most < c.Lo || least > c.Hi:
		return -1
	}
	return 0
}
