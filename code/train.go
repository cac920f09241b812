package code

import "ganglion/api"

// Train learns weights from samples.
func Train(l []Sample, margin, rounds int) (Trained, api.Errno) {
	if e := checkSamples(l); e != api.OK {
		return Trained{}, e
	}
	if !within(0, MaxMargin, margin) || !within(1, MaxRounds, rounds) {
		return Trained{}, api.ErrRange
	}
	t := Trained{Weights: make([]int, len(l[0].X))}
	for range rounds {
		before := t.Updates
		for _, x := range l {
			t.learn(x, margin)
		}
		if t.Updates == before {
			t.Done = true
			break
		}
	}
	return t, api.OK
}

// learn does the update for a sample, if there is one.
func (t *Trained) learn(x Sample, margin int) {
	sign := 1
	if !x.Yes {
		sign = -1
	}
	sum := t.Bias + weigh(t.Weights, x.X, func(feature int) int { return feature })
	if sign*sum > margin {
		return
	}
	for i, feature := range x.X {
		t.Weights[i] += sign * feature
	}
	t.Bias += sign
	t.Updates++
}

// checkSamples returns the error of a list of samples.
func checkSamples(l []Sample) api.Errno {
	if len(l) == 0 {
		return api.ErrRange
	}
	if len(l) > MaxSamples {
		return api.ErrMany
	}
	if !within(1, MaxUnits, len(l[0].X)) {
		return api.ErrRange
	}
	for _, x := range l {
		if len(x.X) != len(l[0].X) {
			return api.ErrShape
		}
		if !within(-MaxFeature, MaxFeature, x.X...) {
			return api.ErrRange
		}
	}
	return api.OK
}
