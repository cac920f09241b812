package net_test

import (
	"slices"
	"testing"

	"ganglion/api"
	"ganglion/net"
)

// steps returns the spikes of a simulation up to a tick.
func steps(t *testing.T, s *net.Sim, inputs []api.Event, end int) []api.Event {
	t.Helper()
	var spikes []api.Event
	for now := s.Now(); now < end; now++ {
		var ids []int
		for _, x := range inputs {
			if x.Tick == now {
				ids = append(ids, x.Id)
			}
		}
		for _, i := range step(t, s, ids) {
			spikes = append(spikes, api.Event{Tick: now, Id: i})
		}
	}
	return spikes
}

// P2.8, G1: Run, Driven and the steps of a simulation give the same spikes.
func TestP2_8ByTicksAndByEvents(t *testing.T) {
	var g generator = 13
	spikes := 0
	for i := range 1500 {
		n := g.net([]int{6, 40, 3000, api.MaxV}[i%4])
		inputs, ticks := g.events(n, 300, g.from(1, 60)), g.below(350)
		l := run(t, n, inputs, ticks)
		if m := driven(t, n, inputs, ticks); !slices.Equal(l, m) {
			t.Fatalf("Run(%v, %v, %d): %v, Driven: %v", n, inputs, ticks, l, m)
		}
		if m := steps(t, newSim(t, n), inputs, ticks); !slices.Equal(l, m) {
			t.Fatalf("Run(%v, %v, %d): %v, by steps: %v", n, inputs, ticks, l, m)
		}
		spikes += len(l)
	}
	if spikes < 20000 {
		t.Errorf("there were only %d spikes in all", spikes)
	}
}

// P2.8, G1: a network that has all it can have.
func TestP2_8Greatest(t *testing.T) {
	var g generator = 17
	n := api.Net{Inputs: api.MaxInputs}
	for range api.MaxNeurons {
		p := g.params(100)
		p.Bias, p.Thresh = 0, p.Thresh+50
		n.Neurons = append(n.Neurons, p)
	}
	for range api.MaxSynapses {
		n.Synapses = append(n.Synapses, syn(g.from(-256, 1023), g.below(1024), g.from(-20, 50), g.from(1, 16)))
	}
	inputs := g.events(n, 400, 40)
	l := run(t, n, inputs, 600)
	if m := driven(t, n, inputs, 600); !slices.Equal(l, m) || len(l) < 1000 {
		t.Errorf("Run: %d spikes, Driven: %d", len(l), len(m))
	}
	if m := runModel(n, inputs, 600); !slices.Equal(l, m) {
		t.Errorf("Run: %d spikes, by the definition: %d", len(l), len(m))
	}
}

// P2.8, P2.7: a simulation that is resumed, or copied, goes on as the one whose image it is.
func TestP2_8Resumed(t *testing.T) {
	var g generator = 19
	for i := range 600 {
		n := g.net([]int{10, 60, api.MaxV}[i%3])
		inputs, cut := g.events(n, 100, g.from(1, 12)), g.below(100)
		want := run(t, n, inputs, 120)
		s := newSim(t, n)
		first := steps(t, s, inputs, cut)
		r, c := resume(t, n, image(t, s)), s.Copy()
		if x := image(t, s); !sameImage(image(t, r), x) || !sameImage(image(t, c), x) {
			t.Fatalf("%v: the images in the tick %d differ", n, cut)
		}
		for name, s := range map[string]*net.Sim{"itself": s, "resumed": r, "copied": c} {
			if l := slices.Concat(first, steps(t, s, inputs, 120)); !slices.Equal(l, want) {
				t.Fatalf("%v, %v: %s in the tick %d: %v, want %v", n, inputs, name, cut, l, want)
			}
		}
		if !sameImage(image(t, r), image(t, s)) || !sameImage(image(t, c), image(t, s)) {
			t.Fatalf("%v: the images at the end differ", n)
		}
	}
}

// P2.9, G1: a renumbered network has the same spikes, with the other numbers.
func TestP2_9Renumbered(t *testing.T) {
	var g generator = 23
	for range 600 {
		n := g.net(40)
		to, inputs := g.order(len(n.Neurons)), g.events(n, 100, g.from(1, 12))
		m, e := net.Renumber(n, to)
		if e != api.OK || net.Check(m) != api.OK {
			t.Fatalf("Renumber(%v, %v): %v, %d", n, to, m, e)
		}
		want := run(t, n, inputs, 120)
		for i := range want {
			want[i].Id = to[want[i].Id]
		}
		want = sorted(want)
		if l := run(t, m, inputs, 120); !slices.Equal(l, want) {
			t.Fatalf("Run(%v, %v), renumbered by %v: %v, want %v", n, inputs, to, l, want)
		}
		if l := driven(t, m, inputs, 120); !slices.Equal(l, want) {
			t.Fatalf("Driven(%v, %v), renumbered by %v: %v, want %v", n, inputs, to, l, want)
		}
	}
}

// P2.10, G9: networks beside each other do not change each other's spikes.
func TestP2_10Joined(t *testing.T) {
	var g generator = 29
	for range 600 {
		a, b := g.net(40), g.net(40)
		n, e := net.Join(a, b)
		if e != api.OK {
			t.Fatalf("Join(%v, %v): %d", a, b, e)
		}
		first, second := g.events(a, 100, g.from(1, 12)), g.events(b, 100, g.from(1, 12))
		moved := func(l []api.Event, by int) []api.Event {
			l = slices.Clone(l)
			for i := range l {
				l[i].Id += by
			}
			return l
		}
		inputs := sorted(slices.Concat(first, moved(second, a.Inputs)))
		want := sorted(slices.Concat(run(t, a, first, 120), moved(run(t, b, second, 120), len(a.Neurons))))
		if l := run(t, n, inputs, 120); !slices.Equal(l, want) {
			t.Fatalf("Run of %v beside %v with %v: %v, want %v", a, b, inputs, l, want)
		}
		if l := driven(t, n, inputs, 120); !slices.Equal(l, want) {
			t.Fatalf("Driven of %v beside %v with %v: %v, want %v", a, b, inputs, l, want)
		}
	}
}

// P2.11: spikes do not depend on events in the same tick, nor later.
func TestP2_11Later(t *testing.T) {
	var g generator = 31
	for range 600 {
		n := g.net(40)
		inputs, cut := g.events(n, 100, g.from(1, 12)), g.below(100)
		upTo := func(l []api.Event, last int) []api.Event {
			return slices.DeleteFunc(slices.Clone(l), func(x api.Event) bool { return x.Tick > last })
		}
		others := upTo(inputs, cut-1)
		for _, x := range g.events(n, 100, g.from(1, 12)) {
			if x.Tick >= cut {
				others = append(others, x)
			}
		}
		for call, f := range runs {
			l, e := f(n, inputs, 120)
			m, e2 := f(n, others, 120)
			if e != api.OK || e2 != api.OK || !slices.Equal(upTo(l, cut), upTo(m, cut)) {
				t.Fatalf("%s(%v), up to the tick %d: %v, with other events %v", call, n, cut, l, m)
			}
		}
	}
}

// P2.11: the spikes of a neuron do not depend on events at inputs that do not reach it, nor on such neurons.
func TestP2_11Reach(t *testing.T) {
	var g generator = 37
	others := 0
	for range 1500 {
		n := g.net(40)
		of, inputs := g.below(len(n.Neurons)), g.events(n, 100, g.from(1, 12))
		reaches := func(source int) bool {
			l, e := net.Reach(n, []int{source})
			if e != api.OK {
				t.Fatalf("Reach(%v, %d): %d", n, source, e)
			}
			return l[of]
		}
		m := cloneNet(n)
		for i := range m.Neurons {
			if !reaches(i) {
				m.Neurons[i] = g.params(40)
				others++
			}
		}
		changed := slices.DeleteFunc(slices.Clone(inputs), func(x api.Event) bool { return !reaches(-1 - x.Id) })
		for _, x := range g.events(n, 100, g.from(1, 12)) {
			if !reaches(-1 - x.Id) {
				changed = append(changed, x)
			}
		}
		mine := func(l []api.Event) []api.Event {
			return slices.DeleteFunc(l, func(x api.Event) bool { return x.Id != of })
		}
		l, k := mine(run(t, n, inputs, 120)), mine(run(t, m, sorted(changed), 120))
		if !slices.Equal(l, k) {
			t.Fatalf("the neuron %d of %v: %v, with what does not reach it changed: %v", of, n, l, k)
		}
	}
	if others == 0 {
		t.Error("every neuron reached all others")
	}
}

// P2.12: without a bias, all happens as much later as the events do.
func TestP2_12Later(t *testing.T) {
	var g generator = 41
	for range 600 {
		n := g.net(40)
		for i := range n.Neurons {
			n.Neurons[i].Bias = 0
		}
		inputs := g.events(n, 100, g.from(1, 12))
		moved := func(l []api.Event, by int) []api.Event {
			l = slices.Clone(l)
			for i := range l {
				l[i].Tick += by
			}
			return l
		}
		spikes := run(t, n, inputs, 120)
		k := g.below(100)
		if l := run(t, n, moved(inputs, k), 120+k); !slices.Equal(l, moved(spikes, k)) {
			t.Fatalf("Run(%v, %v), %d ticks later: %v, want %v", n, inputs, k, l, moved(spikes, k))
		}
		k = g.below(net.MaxLong - 120)
		if l := driven(t, n, moved(inputs, k), 120+k); !slices.Equal(l, moved(spikes, k)) {
			t.Fatalf("Driven(%v, %v), %d ticks later: %v, want %v", n, inputs, k, l, moved(spikes, k))
		}
	}
}
