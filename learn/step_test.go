package learn_test

import (
	"math"
	"slices"
	"testing"

	"ganglion/api"
	"ganglion/learn"
)

// P3.3, P3.4: the first pair of the example, tick by tick.
func TestP3_3Step(t *testing.T) {
	l := begin(t, example(pair()))
	for now, x := range []struct {
		inputs, want []int
		mark         learn.Mark
	}{
		{[]int{0}, nil, learn.Mark{Weight: 2}},
		{nil, []int{0}, learn.Mark{Weight: 2}},
		{[]int{1}, nil, learn.Mark{Weight: 2, X: 64}},
		{nil, []int{1}, learn.Mark{Weight: 4, X: 32, Y: 64}},
		{[]int{}, nil, learn.Mark{Weight: 4, X: 16, Y: 32}},
	} {
		if l.Now() != now {
			t.Errorf("Now: %d, want %d", l.Now(), now)
		}
		if s := step(t, l, x.inputs, nil); !slices.Equal(s, x.want) {
			t.Errorf("the tick %d: %v, want %v", now, s, x.want)
		}
		if m := mark(t, l, 2); m != x.mark {
			t.Errorf("the tick %d: %v, want %v", now, m, x.mark)
		}
	}
}

// P3.3, P3.4: the same with rewards: the eligibility fades in the next tick, before the reward counts.
func TestP3_3Rewards(t *testing.T) {
	l := begin(t, example(reward()))
	for now, x := range []struct {
		inputs, rewards []int
		mark            learn.Mark
	}{
		{[]int{0}, []int{127}, learn.Mark{Weight: 2}},
		{nil, []int{0}, learn.Mark{Weight: 2}},
		{[]int{1}, nil, learn.Mark{Weight: 2, X: 64}},
		{nil, []int{8}, learn.Mark{Weight: 3, X: 32, Y: 64, E: 32}},
		{nil, []int{-33}, learn.Mark{Weight: 1, X: 16, Y: 32, E: 16}}, // 33 times 16 is 2 times 256, and 16
		{[]int{0}, []int{127}, learn.Mark{Weight: 4, X: 8, Y: 16, E: 8}},
		{nil, []int{}, learn.Mark{Weight: 4, X: 4, Y: 8, E: 4}},
		{nil, []int{-128}, learn.Mark{Weight: 4, X: 66, Y: 4, E: 0}}, // 2, less 8 times 4 / 16
		{nil, []int{127}, learn.Mark{Weight: 4, X: 33, Y: 2}},
	} {
		step(t, l, x.inputs, x.rewards)
		if m := mark(t, l, 2); m != x.mark {
			t.Errorf("the tick %d: %v, want %v", now, m, x.mark)
		}
	}
}

// P3.3: what arrives counts with the weight of the tick in which it arrives, not of the one in which it was sent.
func TestP3_3WeightNow(t *testing.T) {
	r := learn.Rule{Kind: learn.Pair, Up: 80, Shift: 11, Gain: 4096, Keep: 128, Hi: 200}
	n := api.Net{Neurons: []api.Params{{Thresh: 100}}, Inputs: 3, Synapses: []api.Synapse{syn(-1, 0, 0, 2), syn(-2, 0, 100, 1), syn(-3, 0, 20, 1)}}
	l := begin(t, task{n, []learn.Rule{r}, []int{0, -1, -1}})
	// What is sent in the tick 2, with the weight 0, arrives in the tick 4 with 80, and with the 20 it is just enough.
	for now, y := range []struct {
		inputs, spikes []int
		weight         int
	}{{[]int{0}, nil, 0}, {nil, nil, 0}, {[]int{0, 1}, nil, 0}, {[]int{2}, []int{0}, 80}, {nil, []int{0}, 120}} {
		if s := step(t, l, y.inputs, nil); !slices.Equal(s, y.spikes) {
			t.Errorf("the tick %d: %v, want %v", now, s, y.spikes)
		}
		if m := mark(t, l, 0); m.Weight != y.weight {
			t.Errorf("the tick %d: the weight %d, want %d", now, m.Weight, y.weight)
		}
	}
}

// P3.3: something arrives, and leaves a trace, also with the weight 0, and at a neuron that rests; after each delay,
// from inputs and neurons, and once for each thing that was sent.
func TestP3_3Arrivals(t *testing.T) {
	for delay := 1; delay <= api.MaxDelay; delay++ {
		r := learn.Rule{Kind: learn.Pair, Gain: 10, Keep: 0, Hi: 5}
		n := api.Net{Neurons: []api.Params{{Thresh: 1, Rest: 64}}, Inputs: 3}
		n.Synapses = []api.Synapse{syn(-1, 0, 1, 1), syn(-3, 0, 0, delay), syn(0, 0, 0, delay), syn(-2, 0, 0, delay)}
		l := begin(t, task{n, []learn.Rule{r}, []int{-1, 0, 0, 0}})
		sent := func(tick int) bool { return tick == 0 || tick == 3 || tick == 17 || tick == 18 || tick == 33 }
		for now := range 60 {
			var inputs []int
			if sent(now) {
				inputs = []int{0, 2} // the neuron has its only spike in the tick 1
			}
			if s := step(t, l, inputs, nil); (len(s) > 0) != (now == 1) {
				t.Errorf("the tick %d: spikes %v", now, s)
			}
			for i, arrived := range []bool{1: sent(now - delay), 2: now == 1+delay, 3: false} {
				want := 0
				if arrived {
					want = 10
				}
				if i > 0 && mark(t, l, i).X != want {
					t.Errorf("delay %d, the tick %d: the synapse %d: %v", delay, now, i, mark(t, l, i))
				}
			}
		}
	}
}

// P3.3: the spikes are in ascending order, whatever the order of the synapses is.
func TestP3_3Order(t *testing.T) {
	n := api.Net{Neurons: slices.Repeat([]api.Params{{Thresh: 5}}, 6), Inputs: 1}
	for _, i := range []int{4, 1, 5, 0} {
		n.Synapses = append(n.Synapses, syn(-1, i, 5, 1))
	}
	l := begin(t, task{n, nil, slices.Repeat([]int{-1}, 4)})
	step(t, l, []int{0}, nil)
	if s := step(t, l, nil, nil); !slices.Equal(s, []int{0, 1, 4, 5}) {
		t.Errorf("Step: %v", s)
	}
}

// P3.3: traces and eligibilities are bounded.
func TestP3_3MaxTrace(t *testing.T) {
	r := learn.Rule{Kind: learn.Reward, Up: 255, Gain: 4096, Keep: 255, Fade: 255, Hi: 3}
	down := r
	down.Up, down.Down = 0, 255
	n := api.Net{Neurons: []api.Params{{Bias: 1, Thresh: 1}}, Inputs: 1, Synapses: []api.Synapse{syn(-1, 0, 1, 1), syn(-1, 0, 1, 2)}}
	l := begin(t, task{n, []learn.Rule{r, down}, []int{0, 1}})
	for range 100 {
		step(t, l, []int{0}, nil)
	}
	if m := mark(t, l, 0); m != (learn.Mark{Weight: 1, X: 65535, Y: 65535, E: 65535}) {
		t.Errorf("the first mark: %v", m)
	}
	if m := mark(t, l, 1); m != (learn.Mark{Weight: 1, X: 65535, Y: 65535, E: -65535}) {
		t.Errorf("the second mark: %v", m)
	}
}

// P3.3: the eligibility is rounded towards 0 when it fades, and so is what a reward does.
func TestP3_3Towards0(t *testing.T) {
	r := learn.Rule{Kind: learn.Reward, Down: 1, Gain: 100, Keep: 255, Fade: 128, Lo: -100, Hi: 100}
	x := example(r)
	l := begin(t, x)
	step(t, l, []int{0, 1}, nil)
	step(t, l, nil, nil)
	for now, y := range []struct {
		reward int
		mark   learn.Mark
	}{
		{0, learn.Mark{Weight: 2, X: 100, Y: 99, E: -99}},
		{5, learn.Mark{Weight: 2, X: 99, Y: 98, E: -49}},    // -245 / 256 is nothing
		{-22, learn.Mark{Weight: 4, X: 98, Y: 97, E: -24}},  // 528 / 256 is 2
		{127, learn.Mark{Weight: -1, X: 97, Y: 96, E: -12}}, // -1524 / 256 is -5, and not -6
	} {
		step(t, l, nil, []int{y.reward})
		if m := mark(t, l, 2); m != y.mark {
			t.Errorf("the tick %d: %v, want %v", now+2, m, y.mark)
		}
	}
}

// P3.3: the errors of Step, in their order; nothing changes with them.
func TestP3_3StepErrors(t *testing.T) {
	two := example(reward())
	two.rules = append(two.rules, pair())
	l := begin(t, two)
	other := begin(t, two)
	var g generator = 11
	for now := range 40 {
		for i, x := range []struct {
			inputs, rewards []int
			want            api.Errno
		}{
			{[]int{2}, nil, api.ErrRange}, {[]int{-1}, nil, api.ErrRange}, {[]int{math.MaxInt}, nil, api.ErrRange}, {[]int{math.MinInt}, nil, api.ErrRange}, {[]int{0, 2}, nil, api.ErrRange},
			{[]int{1, 0}, nil, api.ErrArg}, {[]int{0, 0}, nil, api.ErrArg}, {[]int{1, 0, 7}, nil, api.ErrArg}, {[]int{1, 2, 0}, nil, api.ErrRange},
			{nil, []int{1}, api.ErrShape}, {nil, []int{1, 1, 1}, api.ErrShape}, {nil, []int{999}, api.ErrShape},
			{nil, []int{128, 0}, api.ErrRange}, {nil, []int{0, -129}, api.ErrRange}, {nil, []int{math.MinInt, 0}, api.ErrRange}, {nil, []int{0, math.MaxInt}, api.ErrRange},
			{[]int{2}, []int{1}, api.ErrRange}, {[]int{1, 1}, []int{1}, api.ErrArg}, {[]int{0, 1}, []int{1}, api.ErrShape}, {[]int{0, 1}, []int{1, 128}, api.ErrRange},
		} {
			if s, e := l.Step(x.inputs, x.rewards); e != x.want || len(s) > 0 || l.Now() != now {
				t.Errorf("the case %d: %v, %d, want %d; Now: %d", i, s, e, x.want, l.Now())
			}
		}
		inputs, rewards := []int{g.below(2)}, []int{g.one(-128, 127), g.one(127, -128)}
		if a, b := step(t, l, inputs, rewards), step(t, other, inputs, rewards); !slices.Equal(a, b) || mark(t, l, 2) != mark(t, other, 2) {
			t.Errorf("the tick %d: %v, %v, without errors %v, %v", now, a, mark(t, l, 2), b, mark(t, other, 2))
		}
	}
	none := begin(t, task{n: example(pair()).n, plastic: []int{-1, -1, -1}})
	if _, e := none.Step(nil, []int{0}); e != api.ErrShape {
		t.Errorf("a reward without a rule: %d", e)
	}
	if _, e := none.Step(nil, []int{}); e != api.OK {
		t.Errorf("no rewards and no rules: %d", e)
	}
}

// P3.3: there are MaxTicks ticks.
func TestP3_3StepLong(t *testing.T) {
	l := begin(t, example(pair()))
	for range api.MaxTicks {
		step(t, l, nil, nil)
	}
	for _, inputs := range [][]int{nil, {0}, {7}} {
		if s, e := l.Step(inputs, []int{1, 2}); len(s) > 0 || e != api.ErrLong || l.Now() != api.MaxTicks {
			t.Errorf("Step(%v) behind the last tick: %v, %d", inputs, s, e)
		}
	}
	if c := l.Copy(); c.Now() != api.MaxTicks || mark(t, c, 2) != (learn.Mark{Weight: 2}) {
		t.Errorf("Copy behind the last tick: Now is %d", c.Now())
	}
}

// P3.3: no rewards are the same as rewards 0, and rewards do nothing to the kind Pair.
func TestP3_3NoRewards(t *testing.T) {
	var g generator = 13
	for range 300 {
		x := g.task()
		a, b := begin(t, x), begin(t, x)
		none := make([]int, len(x.rules))
		for i, r := range x.rules {
			if r.Kind == learn.Pair {
				none[i] = g.from(-128, 127)
			}
		}
		for now := range 30 {
			inputs, _ := x.now(g.events(x.n.Inputs, 1, 2), nil, 0)
			if s, u := step(t, a, inputs, nil), step(t, b, inputs, none); !slices.Equal(s, u) || !sameNet(network(t, a), network(t, b)) {
				t.Fatalf("%v, the tick %d: %v, with the rewards %v %v", x, now, s, none, u)
			}
		}
	}
}

// P3.3, P3.4, R4: a network that learns has its own lists, and gives none of them away.
func TestP3_3OwnMemory(t *testing.T) {
	x := example(pair())
	l := begin(t, x)
	clear(x.n.Neurons)
	clear(x.n.Synapses)
	clear(x.rules)
	x.plastic[2] = -1
	n := network(t, l)
	clear(n.Neurons)
	clear(n.Synapses)
	inputs, rewards := []int{0}, []int{3}
	step(t, l, inputs, rewards)
	if inputs[0] != 0 || rewards[0] != 3 {
		t.Errorf("Step changed its arguments: %v, %v", inputs, rewards)
	}
	inputs[0] = 1
	s := step(t, l, nil, nil)
	if !slices.Equal(s, []int{0}) {
		t.Errorf("the second Step: %v", s)
	}
	s[0] = 1
	step(t, l, []int{1}, nil)
	if s := step(t, l, nil, nil); !slices.Equal(s, []int{1}) {
		t.Errorf("the fourth Step: %v", s)
	}
	if n := network(t, l); !slices.Equal(weights(n), []int{5, 5, 4}) || n.Neurons[0].Thresh != 5 || n.Inputs != 2 {
		t.Errorf("Net: %v", n)
	}
}

// P3.3: a copy is in the same state, with the same totals, and goes its own way.
func TestP3_3Copy(t *testing.T) {
	var g generator = 17
	for range 400 {
		x := g.task()
		inputs, prizes := g.events(x.n.Inputs, 90, 3), g.prizes(len(x.rules), 90, 4)
		l, m := begin(t, x), newModel(x)
		walk := func(l *learn.Learner, from, to int) (spikes [][]int) {
			for now := from; now < to; now++ {
				spikes = append(spikes, step(t, l, first(x.now(inputs, prizes, now)), second(x.now(inputs, prizes, now))))
			}
			return spikes
		}
		for now := range 90 {
			m.step(x.now(inputs, prizes, now))
		}
		walk(l, 0, 30)
		c := l.Copy()
		if c == l || c.Now() != 30 || !sameNet(network(t, c), network(t, l)) {
			t.Fatalf("%v: Copy: %v, %v", x, c.Now(), network(t, c))
		}
		before := network(t, c)
		for range 20 {
			step(t, l, nil, nil)
		}
		if c.Now() != 30 || !sameNet(network(t, c), before) {
			t.Fatalf("%v: the copy changed with the other one", x)
		}
		d := c.Copy()
		before = network(t, l)
		a, b := walk(c, 30, 90), walk(d, 30, 90)
		if !slices.EqualFunc(a, b, slices.Equal[[]int]) || !sameNet(network(t, l), before) || l.Now() != 50 {
			t.Fatalf("%v: the copies do not go on alike: %v, %v", x, a, b)
		}
		for i, rule := range x.plastic {
			if rule >= 0 && mark(t, c, i) != m.marks[i] {
				t.Fatalf("%v: the mark %d of the copy: %v, want %v", x, i, mark(t, c, i), m.marks[i])
			}
		}
	}
}

func first(a, _ []int) []int { return a }

func second(_, b []int) []int { return b }

// P3.4: Mark at the beginning, and its errors.
func TestP3_4Mark(t *testing.T) {
	x := example(pair())
	x.n.Synapses[0].Weight, x.plastic[0] = 7, 0
	l := begin(t, x)
	for i, want := range map[int]learn.Mark{0: {Weight: 7}, 2: {Weight: 2}} {
		if m := mark(t, l, i); m != want {
			t.Errorf("Mark(%d): %v, want %v", i, m, want)
		}
	}
	for i, want := range map[int]api.Errno{-1: api.ErrRange, 3: api.ErrRange, math.MaxInt: api.ErrRange, math.MinInt: api.ErrRange, 1: api.ErrNone} {
		if m, e := l.Mark(i); m != (learn.Mark{}) || e != want {
			t.Errorf("Mark(%d): %v, %d, want %d", i, m, e, want)
		}
	}
}

// P3.4: Net at the beginning is the network that was given, and afterwards only the weights that learn differ.
func TestP3_4Net(t *testing.T) {
	var g generator = 19
	for range 300 {
		x := g.task()
		l := begin(t, x)
		if n := network(t, l); !sameNet(n, x.n) {
			t.Fatalf("Net: %v, want %v", n, x.n)
		}
		for range 40 {
			step(t, l, first(x.now(g.events(x.n.Inputs, 1, 2), nil, 0)), nil)
		}
		n := network(t, l)
		for i, rule := range x.plastic {
			if rule >= 0 {
				if w := mark(t, l, i).Weight; n.Synapses[i].Weight != w {
					t.Fatalf("Net: the weight %d of the synapse %d, its mark has %d", n.Synapses[i].Weight, i, w)
				}
				n.Synapses[i].Weight = x.n.Synapses[i].Weight
			}
		}
		if !sameNet(n, x.n) {
			t.Fatalf("Net with the first weights: %v, want %v", n, x.n)
		}
	}
}
