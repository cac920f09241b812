package learn

import "ganglion/api"

// The limits.
const (
	MaxRules = 16
	MaxGain  = 1 << 12
	MaxTrace = 1<<16 - 1
)

// The limits that have no names outside.
const (
	maxShift  = 16
	maxNumber = 255 // of Up, Down, Keep and Fade
	maxWeight = 255 // absolute value of a bound of weights
)

// The kinds of rules.
const (
	Pair   = 1
	Reward = 2
)

// Rule says how weights change.
type Rule struct {
	Kind  int
	Up    int
	Down  int
	Shift int
	Gain  int
	Keep  int
	Fade  int
	Lo    int
	Hi    int
	Sum   bool
}

// Mark is the state of a synapse that learns.
type Mark struct {
	Weight int
	X      int
	Y      int
	E      int
}

// effect is what a kind of rule does to a mark with the change c, and with a reward.
type effect func(r *Rule, m *Mark, c, reward int)

// kinds returns what each kind of rule does.
func kinds() map[int]effect {
	return map[int]effect{Pair: (*Rule).pair, Reward: (*Rule).reward}
}

func (r *Rule) pair(m *Mark, c, _ int) { m.Weight += c }

// reward relies on Go's division, which rounds towards 0 as the document asks.
func (r *Rule) reward(m *Mark, c, reward int) {
	m.E = within(m.E+c, -MaxTrace, MaxTrace)
	m.Weight += reward * m.E / 256
}

// within returns the number from least to most that is nearest to x.
func within(x, least, most int) int { return max(least, min(x, most)) }

// checkRule checks a rule.
func checkRule(r Rule) api.Errno {
	if _, known := kinds()[r.Kind]; !known {
		return api.ErrArg
	}
	for _, x := range [...]int{r.Up, r.Down, r.Keep, r.Fade} {
		if !among(x, 0, maxNumber) {
			return api.ErrRange
		}
	}
	if !among(r.Shift, 0, maxShift) || !among(r.Gain, 1, MaxGain) || r.Kind == Pair && r.Fade != 0 {
		return api.ErrRange
	}
	if r.Lo < -maxWeight || r.Lo > r.Hi || r.Hi > maxWeight {
		return api.ErrRange
	}
	return api.OK
}

// fade lets a tick pass for the traces and for the eligibility. Only this one can be below 0, and is rounded towards
// 0 then.
func (r *Rule) fade(m *Mark) {
	m.X = m.X * r.Keep / 256
	m.Y = m.Y * r.Keep / 256
	m.E = m.E * r.Fade / 256
}

// change returns the change of a synapse through which something arrived, or whose neuron had a spike.
func (r *Rule) change(m Mark, arrived, spiked bool) int {
	c := 0
	if spiked {
		c += r.Up * m.X >> r.Shift
	}
	if arrived {
		c -= r.Down * m.Y >> r.Shift
	}
	return c
}

// leave adds to the traces what happened.
func (r *Rule) leave(m *Mark, arrived, spiked bool) {
	if arrived {
		m.X = min(m.X+r.Gain, MaxTrace)
	}
	if spiked {
		m.Y = min(m.Y+r.Gain, MaxTrace)
	}
}

// Window returns what a single pair does.
func Window(r Rule, gap int) (int, api.Errno) {
	if e := checkRule(r); e != api.OK {
		return 0, e
	}
	if !among(gap, -api.MaxTicks, api.MaxTicks) {
		return 0, api.ErrRange
	}
	var m Mark
	if gap != 0 {
		r.leave(&m, gap > 0, gap < 0)
	}
	for range max(gap, -gap) {
		r.fade(&m)
	}
	return r.change(m, gap <= 0, gap >= 0), api.OK
}
