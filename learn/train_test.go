package learn_test

import (
	"math"
	"slices"
	"testing"

	"ganglion/api"
	"ganglion/learn"
)

// P3.5: the examples, and what is near to them.
func TestP3_5Train(t *testing.T) {
	sum, slow := example(pair()), example(pair())
	sum.rules[0].Sum, slow.rules[0].Hi = true, 3
	sum.n.Synapses = append(sum.n.Synapses, syn(-1, 1, 3, 16))
	sum.plastic = append(sum.plastic, 0)
	alone := example(pair())
	alone.rules[0].Sum = true
	for name, x := range map[string]struct {
		task
		inputs  []api.Event
		prizes  []learn.Prize
		ticks   int
		spikes  []api.Event
		weights []int
	}{
		"before":            {example(pair()), ev(0, 0, 2, 1), nil, 10, ev(1, 0, 3, 1), []int{5, 5, 4}},
		"behind":            {example(pair()), ev(0, 0, 0, 1), nil, 10, ev(1, 0, 1, 1), []int{5, 5, 1}},
		"together":          {example(pair()), ev(0, 0, 1, 1), nil, 10, ev(1, 0, 2, 1), []int{5, 5, 2}},
		"a bound":           {slow, ev(0, 0, 2, 1), nil, 10, ev(1, 0, 3, 1), []int{5, 5, 3}},
		"up to the spike":   {example(pair()), ev(0, 0, 2, 1), nil, 4, ev(1, 0, 3, 1), []int{5, 5, 4}},
		"not so far":        {example(pair()), ev(0, 0, 2, 1), nil, 3, ev(1, 0), []int{5, 5, 2}},
		"no ticks":          {example(pair()), ev(0, 0, 2, 1), nil, 0, nil, []int{5, 5, 2}},
		"later events":      {example(pair()), ev(0, 0, 2, 1, 10, 0, 9999, 1), nil, 10, ev(1, 0, 3, 1), []int{5, 5, 4}},
		"a prize":           {example(reward()), ev(0, 0, 2, 1), pr(3, 0, 16), 10, ev(1, 0, 3, 1), []int{5, 5, 4}},
		"a tick later":      {example(reward()), ev(0, 0, 2, 1), pr(4, 0, 16), 10, ev(1, 0, 3, 1), []int{5, 5, 3}},
		"a punishment":      {example(reward()), ev(0, 0, 2, 1), pr(4, 0, -16), 10, ev(1, 0, 3, 1), []int{5, 5, 1}},
		"a small one":       {example(reward()), ev(0, 0, 2, 1), pr(4, 0, -15), 10, ev(1, 0, 3, 1), []int{5, 5, 2}},
		"no prize":          {example(reward()), ev(0, 0, 2, 1), nil, 10, ev(1, 0, 3, 1), []int{5, 5, 2}},
		"an early prize":    {example(reward()), ev(0, 0, 2, 1), pr(0, 0, 127, 2, 0, 127), 10, ev(1, 0, 3, 1), []int{5, 5, 2}},
		"several":           {example(reward()), ev(0, 0, 2, 1), pr(2, 0, 127, 3, 0, 16, 4, 0, -16, 5, 0, 32), 10, ev(1, 0, 3, 1), []int{5, 5, 4}},
		"later prizes":      {example(reward()), ev(0, 0, 2, 1), pr(3, 0, 16, 4, 0, -128, 9999, 0, 127), 4, ev(1, 0, 3, 1), []int{5, 5, 4}},
		"a prize of a pair": {example(pair()), ev(0, 0, 2, 1), pr(3, 0, 127), 10, ev(1, 0, 3, 1), []int{5, 5, 4}},
		"a sum":             {sum, ev(0, 0, 2, 1), nil, 10, ev(1, 0, 3, 1), []int{5, 5, 3, 2}},
		"a sum of one":      {alone, ev(0, 0, 2, 1), nil, 10, ev(1, 0, 3, 1), []int{5, 5, 2}},
	} {
		l, n := train(t, x.task, x.inputs, x.prizes, x.ticks)
		if !slices.Equal(l, x.spikes) || !slices.Equal(weights(n), x.weights) {
			t.Errorf("%s: %v, %v, want %v, %v", name, l, weights(n), x.spikes, x.weights)
		}
		for i := range n.Synapses {
			n.Synapses[i].Weight = x.n.Synapses[i].Weight
		}
		if !sameNet(n, x.n) {
			t.Errorf("%s: another network: %v", name, n)
		}
	}
}

// P3.5: each prize is for the synapses with its rule, and not for others.
func TestP3_5Rules(t *testing.T) {
	other := reward()
	other.Hi = 5
	x := example(reward())
	x.rules = append(x.rules, other)
	x.n.Synapses = append(x.n.Synapses, syn(0, 1, 2, 1))
	x.plastic = append(x.plastic, 1)
	for _, y := range []struct {
		prizes  []learn.Prize
		weights []int
	}{
		{pr(3, 0, 16), []int{4, 2}}, {pr(3, 1, 16), []int{2, 4}}, {pr(3, 0, 16, 3, 1, -8), []int{4, 1}},
		{pr(3, 0, 16, 4, 1, -16), []int{4, 1}}, {pr(3, 0, 127, 3, 1, 127), []int{9, 5}}, {pr(4, 0, 16, 4, 1, -128, 5, 0, 0, 5, 1, 0), []int{3, 0}},
	} {
		_, n := train(t, x, ev(0, 0, 2, 1), y.prizes, 10)
		if l := weights(n)[2:]; !slices.Equal(l, y.weights) {
			t.Errorf("%v: %v, want %v", y.prizes, l, y.weights)
		}
	}
}

// P3.5: the errors of Train behind those of Check, in their order.
func TestP3_5Errors(t *testing.T) {
	x := example(reward())
	x.rules = append(x.rules, pair())
	many := func(n int) []api.Event {
		var l []api.Event
		for i := range n {
			l = append(l, api.Event{Tick: i / 2 % 9999, Id: i % 2})
		}
		return l
	}
	none := make([]learn.Prize, api.MaxEvents+1)
	bad := pr(-1, 9, 999)
	for i, y := range []struct {
		inputs []api.Event
		prizes []learn.Prize
		ticks  int
		want   api.Errno
	}{
		{ev(0, 9), bad, -1, api.ErrRange}, {many(api.MaxEvents + 1), none, -1, api.ErrRange}, {nil, nil, 10001, api.ErrRange}, {nil, nil, math.MaxInt, api.ErrRange}, {nil, nil, math.MinInt, api.ErrRange}, {many(api.MaxEvents + 1), none, 10001, api.ErrRange}, {nil, nil, 10000, api.OK},
		{many(api.MaxEvents + 1), bad, 1, api.ErrMany}, {append(ev(0, 9), many(api.MaxEvents)...), bad, 0, api.ErrMany},
		{ev(0, 2), none, 1, api.ErrRange}, {ev(0, -1), none, 0, api.ErrRange}, {ev(-1, 0), bad, 1, api.ErrRange}, {ev(10000, 0), bad, 1, api.ErrRange}, {ev(9999, 1), nil, 1, api.OK},
		{ev(1, 0, 0, 0), none, 1, api.ErrArg}, {ev(0, 1, 0, 0), bad, 1, api.ErrArg}, {ev(0, 0, 0, 0), none, 0, api.ErrArg}, {ev(0, 0, 0, 0, 0, 9), nil, 1, api.ErrArg}, {ev(0, 9, 0, 0), nil, 1, api.ErrRange},
		{nil, none, 1, api.ErrMany}, {nil, append(bad, none[1:]...), 0, api.ErrMany},
		{nil, pr(-1, 0, 0), 1, api.ErrRange}, {nil, pr(10000, 0, 0), 1, api.ErrRange}, {nil, pr(math.MinInt, 0, 0), 1, api.ErrRange}, {nil, pr(9999, 0, 0), 1, api.OK},
		{nil, pr(0, -1, 0), 1, api.ErrRange}, {nil, pr(0, 2, 0), 1, api.ErrRange}, {nil, pr(0, math.MaxInt, 0), 1, api.ErrRange}, {nil, pr(0, 1, 0), 1, api.OK},
		{nil, pr(0, 0, -129), 1, api.ErrRange}, {nil, pr(0, 0, 128), 1, api.ErrRange}, {nil, pr(0, 1, 128), 0, api.ErrRange}, {nil, pr(0, 0, -128, 0, 1, 127), 1, api.OK},
		{nil, pr(0, 0, 1, 0, 0, 1), 1, api.ErrArg}, {nil, pr(0, 1, 1, 0, 0, 1), 1, api.ErrArg}, {nil, pr(1, 0, 1, 0, 1, 1), 0, api.ErrArg}, {nil, pr(0, 1, 1, 1, 0, 1), 1, api.OK}, {nil, pr(9999, 0, 0, 9998, 1, 0), 1, api.ErrArg},
		{nil, pr(0, 0, 0, 0, 0, 0, -1, 0, 0), 1, api.ErrArg}, {nil, pr(0, 0, 0, 0, 2, 0, 0, 0, 0), 1, api.ErrRange}, {nil, pr(5, 0, 0, 0, 0, 128), 1, api.ErrRange},
	} {
		l, n, e := learn.Train(x.n, x.rules, x.plastic, y.inputs, y.prizes, y.ticks)
		if e != y.want || e != api.OK && (len(l) > 0 || !sameNet(n, api.Net{})) {
			t.Errorf("the case %d: %v, %v, %d, want %d", i, l, n, e, y.want)
		}
	}
	y := example(pair())
	y.rules, y.plastic = nil, []int{-1, -1, -1}
	if _, _, e := learn.Train(y.n, y.rules, y.plastic, nil, pr(0, 0, 0), 1); e != api.ErrRange {
		t.Errorf("a prize without a rule: %d", e)
	}
}

// P3.5: MaxEvents events and prizes are not too many.
func TestP3_5MaxEvents(t *testing.T) {
	var inputs []api.Event
	var prizes []learn.Prize
	for tick := 0; len(inputs) < api.MaxEvents; tick++ {
		for i := range 8 {
			inputs = append(inputs, api.Event{Tick: tick, Id: i})
			prizes = append(prizes, learn.Prize{Tick: tick, Rule: i})
		}
	}
	x := example(reward())
	x.n.Inputs, x.rules = 8, slices.Repeat(x.rules, 8)
	if _, _, e := learn.Train(x.n, x.rules, x.plastic, inputs, prizes, 10000); e != api.OK {
		t.Errorf("Train: %d", e)
	}
}

// P3.5: MaxEvents spikes are not too many, one more is; and the prizes are examined before.
func TestP3_5ErrLong(t *testing.T) {
	x := task{n: api.Net{Neurons: slices.Repeat([]api.Params{{Bias: 1, Thresh: 1}}, 16)}, rules: []learn.Rule{pair()}}
	if l, _ := train(t, x, nil, nil, 4096); len(l) != api.MaxEvents || l[17] != (api.Event{Tick: 1, Id: 1}) {
		t.Errorf("Train with many spikes: %d", len(l))
	}
	x.n.Neurons = append(x.n.Neurons, api.Params{Bias: 1, Thresh: 4096})
	for _, y := range []struct {
		ticks  int
		prizes []learn.Prize
		want   api.Errno
	}{{4095, nil, api.OK}, {4096, nil, api.ErrLong}, {10000, pr(9999, 0, 1), api.ErrLong}, {10000, pr(9999, 0, 128), api.ErrRange}, {10000, pr(2, 0, 0, 1, 0, 0), api.ErrArg}} {
		l, n, e := learn.Train(x.n, x.rules, x.plastic, nil, y.prizes, y.ticks)
		if e != y.want || e != api.OK && (len(l) > 0 || !sameNet(n, api.Net{})) {
			t.Errorf("Train, %d ticks, %v: %d spikes, %v, %d, want %d", y.ticks, y.prizes, len(l), n, e, y.want)
		}
	}
}

// P3.5, R4: the results are new memory, also if nothing has changed, and if lists have room for more.
func TestP3_5NewMemory(t *testing.T) {
	x := example(pair())
	x.n.Synapses, x.n.Neurons = slices.Grow(x.n.Synapses, 9), slices.Grow(x.n.Neurons, 9)
	before, inputs := x.clone(), ev(0, 0, 2, 1)
	for _, ticks := range []int{0, 10} {
		l, n := train(t, x, inputs, nil, ticks)
		clear(l)
		clear(n.Neurons)
		clear(n.Synapses)
		if !x.same(before) || !slices.Equal(inputs, ev(0, 0, 2, 1)) {
			t.Errorf("the arguments changed with the results: %v, %v", x, inputs)
		}
	}
}

// P3.3, P3.4, P3.5: Step, Mark, Net and Train against the definition.
func TestP3_5AsTheModel(t *testing.T) {
	var g generator = 23
	changes, arrivals, spikes := 0, 0, 0
	for range 1500 {
		x := g.task()
		inputs, prizes := g.events(x.n.Inputs, 80, g.from(1, 8)), g.prizes(len(x.rules), 80, g.from(1, 8))
		l, m := begin(t, x), newModel(x)
		var all []api.Event
		for now := range 80 {
			ids, rewards := x.now(inputs, prizes, now)
			s := step(t, l, ids, rewards)
			if want := m.step(ids, rewards); !slices.Equal(s, want) {
				t.Fatalf("%v, the tick %d: %v, want %v", x, now, s, want)
			}
			for _, i := range s {
				all = append(all, api.Event{Tick: now, Id: i})
			}
			for i, rule := range x.plastic {
				if rule < 0 {
					continue
				}
				y := mark(t, l, i)
				if y != m.marks[i] {
					t.Fatalf("%v, the tick %d: the mark %d: %v, want %v", x, now, i, y, m.marks[i])
				}
				if y.Weight != x.n.Synapses[i].Weight {
					changes++
				}
				if y.X > 0 {
					arrivals++
				}
			}
		}
		spikes += len(all)
		y, n := train(t, x, inputs, prizes, 80)
		if !slices.Equal(y, all) || !sameNet(n, network(t, l)) {
			t.Fatalf("Train(%v, %v, %v): %v, %v, by steps %v, %v", x, inputs, prizes, y, n, all, network(t, l))
		}
	}
	if changes < 20000 || arrivals < 20000 || spikes < 20000 {
		t.Errorf("only %d changes, %d traces, %d spikes", changes, arrivals, spikes)
	}
}
