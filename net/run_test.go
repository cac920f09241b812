package net_test

import (
	"math"
	"slices"
	"testing"

	"ganglion/api"
	"ganglion/net"
)

// P2.2, P2.3: the examples, and what happens at bounds of weights, delays and ticks.
func TestP2_2Run(t *testing.T) {
	inhibited := netE()
	inhibited.Synapses = append(inhibited.Synapses, syn(-1, 1, -9, 4))
	delayed := netE()
	delayed.Synapses[1].Delay = 16
	strong := api.Net{Neurons: []api.Params{{Thresh: 1 << 16}}, Inputs: 2, Synapses: []api.Synapse{syn(-1, 0, api.MaxWeight, 1), syn(-2, 0, api.MaxWeight, 2)}}
	biased := api.Net{Neurons: []api.Params{{Bias: 1, Thresh: 4}, neuronA}, Synapses: []api.Synapse{syn(0, 1, 3, 16), syn(0, 1, 3, 16)}}
	sub := api.Net{Neurons: []api.Params{{Thresh: 2, ResetKind: api.ResetSub, Rest: 2}}, Inputs: 1, Synapses: []api.Synapse{syn(-1, 0, 7, 1)}}
	for name, x := range map[string]struct {
		n      api.Net
		inputs []api.Event
		ticks  int
		want   []api.Event
	}{
		"one event":            {netE(), ev(0, 0), 10, ev(1, 0, 4, 1)},
		"while it rests":       {netE(), ev(0, 0, 1, 0), 10, ev(1, 0, 4, 1)},
		"two events":           {netE(), ev(0, 0, 2, 0), 10, ev(1, 0, 3, 0, 4, 1, 6, 1)},
		"a loop":               {netL(), ev(0, 0), 8, ev(1, 0, 3, 0, 4, 1, 5, 0, 6, 1, 7, 0)},
		"no events":            {netE(), nil, 10, nil},
		"no ticks":             {netE(), ev(0, 0), 0, nil},
		"up to the last spike": {netE(), ev(0, 0), 5, ev(1, 0, 4, 1)},
		"one tick too few":     {netE(), ev(0, 0), 4, ev(1, 0)},
		"later events":         {netE(), ev(0, 0, 3, 0, 4, 0, 9999, 0), 4, ev(1, 0)},
		"inhibited":            {inhibited, ev(0, 0), 10, ev(1, 0)},
		"the greatest delay":   {delayed, ev(0, 0, 16, 0), 40, ev(1, 0, 17, 0, 17, 1, 33, 1)},
		"the greatest weight":  {strong, ev(3, 1, 4, 0, 9, 0), 20, ev(5, 0)},
		"a bias":               {biased, nil, 24, ev(3, 0, 7, 0, 11, 0, 15, 0, 19, 0, 19, 1, 23, 0, 23, 1)},
		"a rest, and more":     {sub, ev(0, 0), 20, ev(1, 0, 4, 0, 7, 0)},
		"all ticks":            {netE(), ev(9998, 0), api.MaxTicks, ev(9999, 0)},
		"the last event":       {netE(), ev(9999, 0), api.MaxTicks, nil},
	} {
		before, events := cloneNet(x.n), slices.Clone(x.inputs)
		for call, f := range runs {
			if l, e := f(x.n, x.inputs, x.ticks); e != api.OK || !slices.Equal(l, x.want) {
				t.Errorf("%s: %s: %v, %d, want %v", name, call, l, e, x.want)
			}
		}
		if !sameNet(x.n, before) || !slices.Equal(x.inputs, events) {
			t.Errorf("%s: an argument was changed", name)
		}
	}
}

// P2.2, P2.3: the errors, and which of several comes first.
func TestP2_2Errors(t *testing.T) {
	const most = net.MaxLong
	lots := make([]api.Event, api.MaxEvents+1) // all of them 0/0, so not in order, too
	for _, x := range []struct {
		inputs []api.Event
		ticks  int
		run    api.Errno
		driven api.Errno
	}{
		{nil, -1, api.ErrRange, api.ErrRange}, {nil, math.MinInt, api.ErrRange, api.ErrRange}, {nil, api.MaxTicks, api.OK, api.OK}, {nil, api.MaxTicks + 1, api.ErrRange, api.OK}, {nil, most, api.ErrRange, api.OK}, {nil, most + 1, api.ErrRange, api.ErrRange}, {nil, math.MaxInt, api.ErrRange, api.ErrRange},
		{ev(9999, 0), 1, api.OK, api.OK}, {ev(10000, 0), 1, api.ErrRange, api.OK}, {ev(most-1, 0), 1, api.ErrRange, api.OK}, {ev(most, 0), 1, api.ErrRange, api.ErrRange}, {ev(-1, 0), 1, api.ErrRange, api.ErrRange}, {ev(math.MaxInt, 0), 1, api.ErrRange, api.ErrRange}, {ev(math.MinInt, 0), 1, api.ErrRange, api.ErrRange},
		{ev(0, 2), 1, api.ErrRange, api.ErrRange}, {ev(0, -1), 1, api.ErrRange, api.ErrRange}, {ev(0, math.MaxInt), 1, api.ErrRange, api.ErrRange}, {ev(0, math.MinInt), 1, api.ErrRange, api.ErrRange},
		{ev(0, 0, 0, 1, 1, 0), 1, api.OK, api.OK}, {ev(0, 0, 0, 0), 1, api.ErrArg, api.ErrArg}, {ev(0, 1, 0, 0), 1, api.ErrArg, api.ErrArg}, {ev(1, 0, 0, 1), 1, api.ErrArg, api.ErrArg},
		// of one event, and of several
		{ev(1, 0, 0, 9), 1, api.ErrRange, api.ErrRange}, {ev(1, 0, -1, 0), 1, api.ErrRange, api.ErrRange}, {ev(1, 0, 0, 0, 0, 9), 1, api.ErrArg, api.ErrArg}, {ev(0, 9, 0, 0, 0, 0), 1, api.ErrRange, api.ErrRange},
		// of several kinds
		{lots, 1, api.ErrMany, api.ErrMany}, {lots, -1, api.ErrRange, api.ErrRange}, {lots, most + 1, api.ErrRange, api.ErrRange}, {lots[1:], 1, api.ErrArg, api.ErrArg},
		{ev(0, 9), -1, api.ErrRange, api.ErrRange}, {ev(0, 0, 0, 0), -1, api.ErrRange, api.ErrRange},
	} {
		n := netE()
		n.Inputs = 2
		for call, want := range map[string]api.Errno{"Run": x.run, "Driven": x.driven} {
			if l, e := runs[call](n, x.inputs, x.ticks); e != want || len(l) != 0 {
				t.Errorf("%s with %d events, such as %v, %d ticks: %v, %d, want %d", call, len(x.inputs), x.inputs[:min(len(x.inputs), 3)], x.ticks, l, e, want)
			}
		}
	}
}

// P2.2, P2.3: a network without inputs takes no events.
func TestP2_2NoInputs(t *testing.T) {
	for call, f := range runs {
		if l, e := f(many(neuronA, 1), ev(0, 0), 1); e != api.ErrRange || len(l) != 0 {
			t.Errorf("%s: %v, %d", call, l, e)
		}
	}
}

// P2.2, P2.3: MaxEvents events are not too many.
func TestP2_2MaxEvents(t *testing.T) {
	n := netE()
	n.Inputs = api.MaxInputs
	var l []api.Event
	for i := range api.MaxEvents {
		l = append(l, api.Event{Tick: i / api.MaxInputs, Id: i % api.MaxInputs})
	}
	want := run(t, n, []api.Event{{}}, 2)
	for call, f := range runs {
		if got, e := f(n, l, 2); e != api.OK || !slices.Equal(got, want) || len(got) != 1 {
			t.Errorf("%s: %v, %d, want %v", call, got, e, want)
		}
	}
}

// P2.2, P2.3: MaxEvents spikes are not too many, one more is; and the events are examined before.
func TestP2_2ErrLong(t *testing.T) {
	for _, x := range []struct {
		neurons, ticks int
		want           api.Errno
	}{{16, 4096, api.OK}, {16, 4097, api.ErrLong}, {17, 3855, api.OK}, {17, 3856, api.ErrLong}, {1024, 64, api.OK}, {1024, 65, api.ErrLong}} {
		for call, f := range runs {
			l, e := f(many(always, x.neurons), nil, x.ticks)
			if e != x.want || e == api.OK && len(l) != x.neurons*x.ticks || e != api.OK && len(l) != 0 {
				t.Errorf("%s of %d neurons, %d ticks: %d spikes, %d, want %d", call, x.neurons, x.ticks, len(l), e, x.want)
			}
			if _, e := f(many(always, x.neurons), ev(0, 0), x.ticks); e != api.ErrRange {
				t.Errorf("%s of %d neurons, %d ticks, with an event: %d", call, x.neurons, x.ticks, e)
			}
		}
	}
}

// P2.2: Run against the definition.
func TestP2_2RunAsTheModel(t *testing.T) {
	var g generator = 7
	spikes := 0
	for i := range 600 {
		n := g.net([]int{20, 3000, api.MaxV}[i%3])
		inputs := g.events(n, 120, g.from(1, 20))
		ticks := g.below(150)
		l, want := run(t, n, inputs, ticks), runModel(n, inputs, ticks)
		if !slices.Equal(l, want) {
			t.Fatalf("Run(%v, %v, %d): %v, want %v", n, inputs, ticks, l, want)
		}
		spikes += len(l)
	}
	if spikes < 5000 {
		t.Errorf("there were only %d spikes in all", spikes)
	}
}

// P2.2: the greatest sums that can be due, in a network that has all it can have.
func TestP2_2Greatest(t *testing.T) {
	n := many(api.Params{Thresh: api.MaxV, ResetKind: api.ResetSub, Floor: -api.MaxV}, api.MaxNeurons)
	n.Inputs = api.MaxInputs
	for i := range api.MaxSynapses {
		n.Synapses = append(n.Synapses, syn(-1-i%256, 1023, api.MaxWeight, api.MaxDelay))
	}
	var inputs []api.Event
	for i := range api.MaxInputs {
		inputs = append(inputs, api.Event{Tick: 0, Id: i})
	}
	for call, f := range runs {
		if l, e := f(n, inputs, 30); e != api.OK || !slices.Equal(l, ev(16, 1023)) {
			t.Errorf("%s: %v, %d", call, l, e)
		}
	}
}

// P2.3: runs of which no one could do each tick of each neuron.
func TestP2_3Driven(t *testing.T) {
	const m = api.MaxV
	one := func(p api.Params, synapses ...api.Synapse) api.Net {
		return api.Net{Neurons: []api.Params{p}, Inputs: 1, Synapses: synapses}
	}
	leaking := one(api.Params{LeakKind: api.LeakLine, Leak: 1, Thresh: 1000}, syn(-1, 0, 600, 1))
	share := one(api.Params{LeakKind: api.LeakShare, Leak: 1, Thresh: 1000}, syn(-1, 0, 900, 1))
	for name, x := range map[string]struct {
		n      api.Net
		inputs []api.Event
		ticks  int
		want   []api.Event
	}{
		"far":         {netE(), ev(1000000000, 0), net.MaxLong, ev(1000000001, 0, 1000000004, 1)},
		"far apart":   {netE(), ev(5, 0, 999999999, 0, 1000000000, 0), net.MaxLong, ev(6, 0, 9, 1, 1000000000, 0, 1000000003, 1)},
		"at the end":  {netE(), ev(net.MaxLong-5, 0, net.MaxLong-3, 0, net.MaxLong-1, 0), net.MaxLong, ev(net.MaxLong-4, 0, net.MaxLong-2, 0, net.MaxLong-1, 1)},
		"before it":   {netE(), ev(net.MaxLong-5, 0), net.MaxLong - 1, ev(net.MaxLong-4, 0)},
		"leaking":     {leaking, ev(0, 0, 199, 0, 500000, 0, 500201, 0), net.MaxLong, ev(200, 0)},
		"not leaking": {one(api.Params{Thresh: 10}, syn(-1, 0, 5, 16)), ev(0, 0, 1000000000, 0), net.MaxLong, ev(1000000016, 0)},
		"a share":     {share, ev(0, 0, 100000, 0, 100400, 0, 100500, 0), net.MaxLong, ev(100001, 0, 100501, 0)}, // 255 remains for ever
		"slow":        {one(api.Params{Bias: 1, Thresh: m, Floor: -m}, syn(-1, 0, -5, 16)), ev(2000000, 0), 3300000, ev(m-1, 0, 2*m+4, 0, 3*m+4, 0)},
		"too slow":    {one(api.Params{LeakKind: api.LeakLine, Leak: 1, Bias: 1, Thresh: 2}), nil, net.MaxLong, nil},
		"down":        {one(api.Params{Bias: -1, Thresh: 2, Floor: -m}, syn(-1, 0, 4, 1)), ev(3, 0, 2000000, 0, 2000001, 0), net.MaxLong, nil},
		"to a floor":  {one(api.Params{Bias: -1, Thresh: 2, Floor: -30}, syn(-1, 0, 32, 1)), ev(0, 0, 1000, 0, 1002, 0), net.MaxLong, ev(1, 0, 1003, 0)},
		"from a rest": {one(api.Params{Thresh: 2, Rest: 64, ResetKind: api.ResetSub}, syn(-1, 0, 7, 1)), ev(1000, 0), net.MaxLong, ev(1001, 0, 1066, 0, 1131, 0)},
	} {
		l, e := net.Driven(x.n, x.inputs, x.ticks)
		if e != api.OK || !slices.Equal(l, x.want) {
			t.Errorf("%s: %v, %d, want %v", name, l, e, x.want)
		}
	}
}

// P2.3: slow neurons have as many spikes as fit into the ticks, and too many spikes end a run also here.
func TestP2_3ManySlowNeurons(t *testing.T) {
	slow := api.Params{Bias: 1, Thresh: api.MaxV}
	l := driven(t, many(slow, 64), nil, net.MaxLong)
	if len(l) != api.MaxEvents {
		t.Fatalf("64 slow neurons: %d spikes", len(l))
	}
	for i, x := range l {
		if want := (api.Event{Tick: (i/64+1)*api.MaxV - 1, Id: i % 64}); x != want {
			t.Fatalf("64 slow neurons: the spike %d is %v, want %v", i, x, want)
		}
	}
	if l, e := net.Driven(many(slow, 65), nil, net.MaxLong); e != api.ErrLong || len(l) != 0 {
		t.Errorf("65 slow neurons: %d spikes, %d", len(l), e)
	}
	if l, e := net.Driven(many(always, 1), nil, net.MaxLong); e != api.ErrLong || len(l) != 0 {
		t.Errorf("a neuron that always spikes: %d spikes, %d", len(l), e)
	}
}

// P2.3: Driven against a simulation of each tick, with potentials that take long ways.
func TestP2_3DrivenAsEachTick(t *testing.T) {
	var g generator = 11
	spikes := 0
	for i := range 60 {
		n := g.net([]int{3000, 100000, api.MaxV}[i%3])
		for j := range n.Neurons {
			p := &n.Neurons[j]
			p.Bias = g.from(-3, 9)
			if p.LeakKind == api.LeakShare {
				p.Leak = g.from(1, 3)
				p.Bias *= 20
			}
			p.Thresh = min(p.Thresh+api.MaxV/100, api.MaxV)
		}
		inputs := g.events(n, 40000, g.from(1, 4000))
		if len(inputs) > 1000 {
			inputs = inputs[:1000]
		}
		l, want := driven(t, n, inputs, 40000), longModel(t, n, inputs, 40000)
		if !slices.Equal(l, want) {
			t.Fatalf("Driven(%v, %v): %v, want %v", n, inputs, l, want)
		}
		spikes += len(l)
	}
	if spikes < 1000 {
		t.Errorf("there were only %d spikes in all", spikes)
	}
}

// P2.2, P2.3, R4: each result is new memory.
func TestP2_2NewMemory(t *testing.T) {
	for call, f := range runs {
		inputs := ev(0, 0)
		first, _ := f(netE(), inputs, 10)
		second, _ := f(netE(), inputs, 10)
		first[0], inputs[0].Id = api.Event{Tick: 77, Id: 77}, 5
		if !slices.Equal(second, ev(1, 0, 4, 1)) {
			t.Errorf("%s: two results share memory", call)
		}
	}
}
