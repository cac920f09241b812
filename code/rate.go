package code

import "ganglion/api"

// Rate returns the ticks of spikes for a value.
func Rate(v, most, ticks int) ([]int, api.Errno) {
	if !rated(most, ticks) || !within(0, most, v) {
		return nil, api.ErrRange
	}
	var out []int
	for t := range ticks {
		if spikes(v, most, t+1) != spikes(v, most, t) {
			out = append(out, t)
		}
	}
	return out, api.OK
}

// Unrate returns which values can have so many spikes.
func Unrate(count, most, ticks, lost int) (lo, hi int, e api.Errno) {
	if !rated(most, ticks) || !within(0, ticks, count) || lost < 0 {
		return 0, 0, api.ErrRange
	}
	found := false
	for v := range most + 1 {
		// The difference is compared with lost, as the sum of count and lost might wrap around.
		if !within(0, lost, spikes(v, most, ticks)-count) {
			continue
		}
		if !found {
			lo, found = v, true
		}
		hi = v
	}
	if !found {
		return 0, 0, api.ErrNone
	}
	return lo, hi, api.OK
}

// rated says whether values up to most can be said in so many ticks.
func rated(most, ticks int) bool {
	return within(1, MaxLevel, most) && within(1, MaxWindow, ticks)
}

// spikes returns how many spikes a value has in the first ticks.
func spikes(v, most, ticks int) int { return ticks * v / most }
