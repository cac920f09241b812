package learn_test

import (
	"slices"
	"testing"

	"ganglion/api"
	"ganglion/learn"
	"ganglion/neuron"
)

func syn(from, to, weight, delay int) api.Synapse {
	return api.Synapse{From: from, To: to, Weight: weight, Delay: delay}
}

// ev returns events, of which Tick and Id are given in turns.
func ev(l ...int) []api.Event {
	var out []api.Event
	for i := 0; i < len(l); i += 2 {
		out = append(out, api.Event{Tick: l[i], Id: l[i+1]})
	}
	return out
}

// pr returns prizes, of which Tick, Rule and Value are given in turns.
func pr(l ...int) []learn.Prize {
	var out []learn.Prize
	for i := 0; i < len(l); i += 3 {
		out = append(out, learn.Prize{Tick: l[i], Rule: l[i+1], Value: l[i+2]})
	}
	return out
}

// task is a network that learns, as it is given to a function.
type task struct {
	n       api.Net
	rules   []learn.Rule
	plastic []int
}

func (x task) clone() task {
	return task{cloneNet(x.n), slices.Clone(x.rules), slices.Clone(x.plastic)}
}

func (x task) same(y task) bool {
	return sameNet(x.n, y.n) && slices.Equal(x.rules, y.rules) && slices.Equal(x.plastic, y.plastic)
}

// example is the network of the chapter's examples, with one rule for the last synapse.
func example(r learn.Rule) task {
	p := api.Params{Thresh: 5}
	n := api.Net{Neurons: []api.Params{p, p}, Inputs: 2, Synapses: []api.Synapse{syn(-1, 0, 5, 1), syn(-2, 1, 5, 1), syn(0, 1, 2, 1)}}
	return task{n, []learn.Rule{r}, []int{-1, -1, 0}}
}

// pair is the rule R of the chapter's examples, reward the one of the kind Reward.
func pair() learn.Rule {
	return learn.Rule{Kind: learn.Pair, Up: 16, Down: 8, Shift: 8, Gain: 64, Keep: 128, Hi: 9}
}

func reward() learn.Rule {
	r := pair()
	r.Kind, r.Shift, r.Fade = learn.Reward, 4, 128
	return r
}

func cloneNet(n api.Net) api.Net {
	return api.Net{Neurons: slices.Clone(n.Neurons), Inputs: n.Inputs, Synapses: slices.Clone(n.Synapses)}
}

func sameNet(a, b api.Net) bool {
	return slices.Equal(a.Neurons, b.Neurons) && a.Inputs == b.Inputs && slices.Equal(a.Synapses, b.Synapses)
}

func weights(n api.Net) []int {
	var l []int
	for _, s := range n.Synapses {
		l = append(l, s.Weight)
	}
	return l
}

// generator is the generator of the document, so that every run of the tests has the same cases.
type generator uint64

func (g *generator) below(n int) int {
	*g = *g*6364136223846793005 + 1442695040888963407
	return int(uint64(*g) >> 33 % uint64(n))
}

func (g *generator) from(least, most int) int { return least + g.below(most-least+1) }

func (g *generator) one(of ...int) int { return of[g.below(len(of))] }

// rule draws a valid rule.
func (g *generator) rule() learn.Rule {
	r := learn.Rule{
		Kind:  g.one(learn.Pair, learn.Reward),
		Up:    g.one(0, 255, g.below(256)),
		Down:  g.one(0, 255, g.below(256)),
		Shift: g.one(0, 16, g.from(3, 10)),
		Gain:  g.one(1, learn.MaxGain, g.from(1, 200)),
		Keep:  g.one(0, 255, g.below(256)),
		Lo:    g.from(-255, 255),
		Sum:   g.below(2) == 0,
	}
	if r.Kind == learn.Reward {
		r.Fade = g.one(0, 255, g.below(256))
	}
	r.Hi = g.from(r.Lo, 255)
	return r
}

// params draws a valid neuron.
func (g *generator) params() api.Params {
	p := api.Params{LeakKind: g.below(3), ResetKind: g.below(2), Thresh: g.from(1, 200), Floor: -g.below(200), Rest: g.below(3)}
	switch p.LeakKind {
	case api.LeakLine:
		p.Leak = g.from(1, 20)
	case api.LeakShare:
		p.Leak = g.from(1, 256)
	}
	if g.below(2) == 0 {
		p.Bias = g.from(-20, 60)
	}
	if p.ResetKind == api.ResetTo {
		p.Reset = g.from(p.Floor, p.Thresh-1)
	}
	return p
}

// task draws a valid network that learns, with a few neurons and some rules.
func (g *generator) task() task {
	x := task{n: api.Net{Inputs: g.below(4)}}
	for range g.below(4) {
		x.rules = append(x.rules, g.rule())
	}
	for range g.from(1, 4) {
		x.n.Neurons = append(x.n.Neurons, g.params())
	}
	for range g.below(16) {
		rule, weight := g.from(-1, len(x.rules)-1), g.from(-1000, 2000)
		if rule >= 0 {
			weight = g.from(x.rules[rule].Lo, x.rules[rule].Hi)
		}
		x.plastic = append(x.plastic, rule)
		x.n.Synapses = append(x.n.Synapses, syn(g.from(-x.n.Inputs, len(x.n.Neurons)-1), g.below(len(x.n.Neurons)), weight, g.from(1, api.MaxDelay)))
	}
	return x
}

// events draws events at some inputs, about one in so many ticks at each of them.
func (g *generator) events(inputs, ticks, seldom int) []api.Event {
	var l []api.Event
	for t := range ticks {
		for i := range inputs {
			if g.below(seldom) == 0 {
				l = append(l, api.Event{Tick: t, Id: i})
			}
		}
	}
	return l
}

// prizes draws prizes for some rules, about one in so many ticks for each of them.
func (g *generator) prizes(rules, ticks, seldom int) []learn.Prize {
	var l []learn.Prize
	for t := range ticks {
		for i := range rules {
			if g.below(seldom) == 0 {
				l = append(l, learn.Prize{Tick: t, Rule: i, Value: g.from(-128, 127)})
			}
		}
	}
	return l
}

// now returns the inputs and rewards of a tick.
func (x task) now(inputs []api.Event, prizes []learn.Prize, tick int) (ids, rewards []int) {
	for _, y := range inputs {
		if y.Tick == tick {
			ids = append(ids, y.Id)
		}
	}
	rewards = make([]int, len(x.rules))
	for _, y := range prizes {
		if y.Tick == tick {
			rewards[y.Rule] = y.Value
		}
	}
	return ids, rewards
}

// sending is that a source sends something in a tick.
type sending struct{ source, tick int }

// model follows the definitions word by word: it knows all that was ever sent, does the five steps one behind the
// other for all synapses, and changes weights that keep a sum one by one.
type model struct {
	task
	tick   int
	states []api.State
	marks  []learn.Mark
	sent   map[sending]bool
}

func newModel(x task) *model {
	m := &model{task: x, states: make([]api.State, len(x.n.Neurons)), sent: map[sending]bool{}}
	for _, s := range x.n.Synapses {
		m.marks = append(m.marks, learn.Mark{Weight: s.Weight})
	}
	return m
}

func (m *model) step(inputs, rewards []int) []int {
	arrived := make([]bool, len(m.marks))
	sums := make([]int, len(m.states))
	for i, s := range m.n.Synapses {
		if m.sent[sending{s.From, m.tick - s.Delay}] {
			arrived[i] = true
			sums[s.To] += m.marks[i].Weight
		}
	}
	var spikes []int
	spiked := make([]bool, len(m.states))
	for i, p := range m.n.Neurons {
		m.states[i], spiked[i], _ = neuron.Tick(p, m.states[i], sums[i])
		if spiked[i] {
			spikes = append(spikes, i)
			m.sent[sending{i, m.tick}] = true
		}
	}
	for _, i := range inputs {
		m.sent[sending{-1 - i, m.tick}] = true
	}
	m.fade()
	m.learn(arrived, spiked, rewards)
	m.leave(arrived, spiked)
	for rule := range m.rules {
		for to := range m.n.Neurons {
			m.keep(rule, to)
		}
	}
	m.tick++
	return spikes
}

// down is a / b, rounded down, for b above 0.
func down(a, b int) int {
	if a%b < 0 {
		return a/b - 1
	}
	return a / b
}

// towards0 is a / b, rounded towards 0, for b above 0.
func towards0(a, b int) int {
	if a < 0 {
		return -down(-a, b)
	}
	return down(a, b)
}

func (m *model) fade() {
	for i, rule := range m.plastic {
		if rule >= 0 {
			r, x := m.rules[rule], &m.marks[i]
			x.X, x.Y, x.E = down(x.X*r.Keep, 256), down(x.Y*r.Keep, 256), towards0(x.E*r.Fade, 256)
		}
	}
}

func (m *model) learn(arrived, spiked []bool, rewards []int) {
	for i, rule := range m.plastic {
		if rule < 0 {
			continue
		}
		r, x, c := m.rules[rule], &m.marks[i], 0
		if spiked[m.n.Synapses[i].To] {
			c += down(r.Up*x.X, 1<<r.Shift)
		}
		if arrived[i] {
			c -= down(r.Down*x.Y, 1<<r.Shift)
		}
		if r.Kind == learn.Pair {
			x.Weight += c
		} else {
			x.E = bounded(x.E+c, -learn.MaxTrace, learn.MaxTrace)
			x.Weight += towards0(rewards[rule]*x.E, 256)
		}
		x.Weight = bounded(x.Weight, r.Lo, r.Hi)
	}
}

func bounded(x, lo, hi int) int {
	if x < lo {
		return lo
	}
	if x > hi {
		return hi
	}
	return x
}

func (m *model) leave(arrived, spiked []bool) {
	for i, rule := range m.plastic {
		if rule < 0 {
			continue
		}
		x := &m.marks[i]
		if arrived[i] {
			x.X = bounded(x.X+m.rules[rule].Gain, 0, learn.MaxTrace)
		}
		if spiked[m.n.Synapses[i].To] {
			x.Y = bounded(x.Y+m.rules[rule].Gain, 0, learn.MaxTrace)
		}
	}
}

// missing returns by how much the total of a rule and a neuron is above the sum of the weights now.
func (m *model) missing(rule, to int) int {
	d := 0
	for i, s := range m.n.Synapses {
		if m.plastic[i] == rule && s.To == to {
			d += s.Weight - m.marks[i].Weight
		}
	}
	return d
}

func (m *model) keep(rule, to int) {
	if !m.rules[rule].Sum {
		return
	}
	for d := m.missing(rule, to); d != 0; {
		for i, s := range m.n.Synapses {
			if m.plastic[i] != rule || s.To != to {
				continue
			}
			if x := &m.marks[i]; d > 0 && x.Weight < m.rules[rule].Hi {
				x.Weight++
				d--
			} else if d < 0 && x.Weight > m.rules[rule].Lo {
				x.Weight--
				d++
			}
		}
	}
}

// begin, step, mark, network and train are the functions for arguments that are known to be valid.
func begin(t *testing.T, x task) *learn.Learner {
	t.Helper()
	l, e := learn.New(x.n, x.rules, x.plastic)
	if e != api.OK {
		t.Fatalf("New(%v): the error %d", x, e)
	}
	return l
}

func step(t *testing.T, l *learn.Learner, inputs, rewards []int) []int {
	t.Helper()
	spikes, e := l.Step(inputs, rewards)
	if e != api.OK {
		t.Fatalf("Step(%v, %v): the error %d", inputs, rewards, e)
	}
	return spikes
}

func mark(t *testing.T, l *learn.Learner, synapse int) learn.Mark {
	t.Helper()
	m, e := l.Mark(synapse)
	if e != api.OK {
		t.Fatalf("Mark(%d): the error %d", synapse, e)
	}
	return m
}

func network(t *testing.T, l *learn.Learner) api.Net {
	t.Helper()
	n, e := l.Net()
	if e != api.OK {
		t.Fatalf("Net: the error %d", e)
	}
	return n
}

func train(t *testing.T, x task, inputs []api.Event, prizes []learn.Prize, ticks int) ([]api.Event, api.Net) {
	t.Helper()
	l, n, e := learn.Train(x.n, x.rules, x.plastic, inputs, prizes, ticks)
	if e != api.OK {
		t.Fatalf("Train(%v, %v, %v, %d): the error %d", x, inputs, prizes, ticks, e)
	}
	return l, n
}

func window(t *testing.T, r learn.Rule, gap int) int {
	t.Helper()
	c, e := learn.Window(r, gap)
	if e != api.OK {
		t.Fatalf("Window(%v, %d): the error %d", r, gap, e)
	}
	return c
}
