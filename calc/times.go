package calc

import "ganglion/api"

// Keeps reports whether times keep a curve.
func Keeps(times []int, c Curve) (bool, api.Errno) {
	if e := Check(c); e != api.OK {
		return false, e
	}
	least, e := Burst(times, c.Rate)
	return e == api.OK && least <= c.Burst, e
}

// Burst returns the least burst with which times keep a rate.
func Burst(times []int, rate int) (int, api.Errno) {
	if !among(rate, 0, Unit) {
		return 0, api.ErrRange
	}
	if e := checkTimes(times); e != api.OK {
		return 0, e
	}
	least := 0
	fill := bucket(rate)
	for _, t := range times {
		least = max(least, fill(t))
	}
	return least, api.OK
}

// Shape returns the earliest times, not before those given, that keep a curve.
func Shape(times []int, c Curve) ([]int, api.Errno) {
	if e := Check(c); e != api.OK {
		return nil, e
	}
	if e := checkTimes(times); e != api.OK {
		return nil, e
	}
	if c.Burst+c.Rate < Unit && len(times) > 0 {
		return nil, api.ErrBound
	}
	l := make([]int, len(times))
	fill := bucket(c.Rate)
	next := 0
	for i, t := range times {
		l[i] = max(t, next)
		// So much has to flow out before there is room for one more.
		over := fill(l[i]) + Unit - c.Burst
		switch {
		case over <= 0:
			next = l[i]
		case c.Rate > 0:
			next = l[i] + (over+c.Rate-1)/c.Rate
		case i+1 < len(times):
			return nil, api.ErrBound
		}
	}
	return l, api.OK
}

// checkTimes checks times.
func checkTimes(times []int) api.Errno {
	if len(times) > MaxTimes {
		return api.ErrMany
	}
	last := 0
	for _, t := range times {
		if !among(t, 0, api.MaxTicks) {
			return api.ErrRange
		}
		if t < last {
			return api.ErrArg
		}
		last = t
	}
	return api.OK
}

// bucket returns a function that takes times, one after the other, and returns the least burst that the ticks up to
// this time need. Each time fills in a packet, and each tick lets the rate flow out; a bucket that is empty has at most
// the rate of its present tick to spare, not that of ticks before.
func bucket(rate int) func(time int) int {
	level, last := -rate, 0
	return func(time int) int {
		level = max(level-rate*(time-last), -rate) + Unit
		last = time
		return level
	}
}
