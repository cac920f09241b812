package code

import "ganglion/api"

// Phase returns the ticks for values.
func Phase(values []int, kinds, jitter int) ([]int, api.Errno) {
	if e := checkPhase(len(values), kinds, jitter); e != api.OK {
		return nil, e
	}
	if !within(0, kinds-1, values...) {
		return nil, api.ErrRange
	}
	var out []int
	for i, v := range values {
		out = append(out, (i*kinds+v)*slotTicks(jitter)+jitter)
	}
	return out, api.OK
}

// Unphase returns the values that ticks say.
func Unphase(ticks []int, kinds, jitter int) ([]int, api.Errno) {
	if e := checkPhase(len(ticks), kinds, jitter); e != api.OK {
		return nil, e
	}
	var out []int
	for i, t := range ticks {
		if t < 0 {
			return nil, api.ErrRange
		}
		// Counted from the tick 0 on, as a period has just as many slots as there are kinds.
		slot := t / slotTicks(jitter)
		if slot/kinds != i {
			return nil, api.ErrNone
		}
		out = append(out, slot%kinds)
	}
	return out, api.OK
}

// checkPhase returns the error of a code for n values.
func checkPhase(n, kinds, jitter int) api.Errno {
	if !within(1, MaxKinds, kinds) || !within(0, MaxJitter, jitter) {
		return api.ErrRange
	}
	if n > MaxWindow {
		return api.ErrMany
	}
	return api.OK
}

// slotTicks returns how many ticks a slot has.
func slotTicks(jitter int) int { return 2*jitter + 1 }
