package net_test

import (
	"math"
	"slices"
	"testing"

	"ganglion/api"
	"ganglion/net"
)

// edges are numbers at and around all bounds, and the greatest ones of all.
var edges = []int{0, 1, -1, 2, -2, 3, 5, 16, 17, 256, 257, 1024, 1025, api.MaxWeight, api.MaxWeight + 1, -api.MaxWeight - 1, api.MaxTicks, api.MaxTicks + 1, api.MaxV + 1, 1 << 28, 1<<28 + 1, net.MaxLong, net.MaxLong + 1, math.MaxInt, math.MinInt, math.MaxInt - 1, math.MinInt + 1}

// answers are the errors of all functions that get a network, by their names. With an error, there is nothing else (R2).
func answers(t *testing.T, n api.Net, events []api.Event, ticks int, to, from []int, x net.Image) map[string]api.Errno {
	t.Helper()
	l := map[string]api.Errno{"Check": net.Check(n)}
	clean := func(name string, e api.Errno, zero bool) {
		t.Helper()
		l[name] = e
		if e != api.OK && !zero {
			t.Errorf("%s: a result with the error %d", name, e)
		}
	}
	spikes, e := net.Run(n, events, ticks)
	clean("Run", e, len(spikes) == 0)
	spikes, e = net.Driven(n, events, ticks)
	clean("Driven", e, len(spikes) == 0)
	m, e := net.Join(n, netE())
	clean("Join", e, sameNet(m, api.Net{}))
	m, e = net.Join(netE(), n)
	clean("Join behind", e, sameNet(m, api.Net{}))
	m, e = net.Renumber(n, to)
	clean("Renumber", e, sameNet(m, api.Net{}))
	reached, e := net.Reach(n, from)
	clean("Reach", e, len(reached) == 0)
	s, e := net.New(n)
	clean("New", e, s == nil)
	s, e = net.Resume(n, x)
	clean("Resume", e, s == nil)
	return l
}

// P0: whatever the arguments are, every function returns.
func TestP0AnyArguments(t *testing.T) {
	var g generator = 3
	any := func() int { return edges[g.below(len(edges))] }
	for range 2000 {
		n := g.net(30)
		if g.below(8) == 0 {
			n.Inputs = any()
		}
		if g.below(8) == 0 {
			p := &n.Neurons[g.below(len(n.Neurons))]
			p.LeakKind, p.Thresh, p.Rest = any(), any(), any()
		}
		if i := g.below(20); i < len(n.Synapses) && g.below(4) == 0 {
			*[]*int{&n.Synapses[i].From, &n.Synapses[i].To, &n.Synapses[i].Weight, &n.Synapses[i].Delay}[g.below(4)] = any()
		}
		var x net.Image
		if s, e := net.New(n); e == api.OK {
			x = image(t, s)
		}
		if g.below(2) == 0 && len(x.Due) > 0 {
			x.Tick = any()
			x.States[0] = api.State{V: any(), Rest: any()}
			x.Due[g.below(16)][0] = any()
		}
		ticks := any()
		if ticks > api.MaxTicks {
			n.Neurons = n.Neurons[:1]
		}
		answers(t, n, ev(any(), any(), any(), any()), ticks, []int{any(), any()}, []int{any()}, x)
		if s, e := net.Resume(n, x); e == api.OK {
			for range 3 {
				s.Step([]int{any(), any()})
				s.Step(nil)
			}
			s.Copy().Image()
		}
	}
	answers(t, api.Net{}, nil, 0, nil, nil, net.Image{})
}

// P0, R3: a simulation that no function of the package made.
func TestP0NoSimulation(t *testing.T) {
	s := newSim(t, netE())
	step(t, s, []int{0})
	assigned := *s
	for name, s := range map[string]*net.Sim{"nil": nil, "zero": {}, "new": new(net.Sim), "assigned": &assigned} {
		if l, e := s.Step([]int{99}); len(l) != 0 || e != api.ErrNil {
			t.Errorf("%s: Step: %v, %d", name, l, e)
		}
		if x, e := s.Image(); !sameImage(x, net.Image{}) || e != api.ErrNil {
			t.Errorf("%s: Image: %v, %d", name, x, e)
		}
		if s.Now() != 0 || s.Copy() != nil {
			t.Errorf("%s: Now: %d, Copy: %v", name, s.Now(), s.Copy())
		}
	}
	if s.Now() != 1 || !slices.Equal(step(t, s, nil), []int{0}) {
		t.Errorf("the simulation itself has changed")
	}
}

// checks are networks, and what Check returns for them.
func checks() map[string]struct {
	n    api.Net
	want api.Errno
} {
	l := map[string]struct {
		n    api.Net
		want api.Errno
	}{}
	add := func(name string, want api.Errno, change func(n *api.Net)) {
		n := netE()
		change(&n)
		l[name] = struct {
			n    api.Net
			want api.Errno
		}{n, want}
	}
	add("E", api.OK, func(*api.Net) {})
	add("no neurons", api.ErrArg, func(n *api.Net) { n.Neurons = nil })
	add("no neurons, too many inputs", api.ErrArg, func(n *api.Net) { n.Neurons, n.Inputs = []api.Params{}, 257 })
	add("most neurons", api.OK, func(n *api.Net) { n.Neurons = slices.Repeat(n.Neurons, 512) })
	add("too many neurons", api.ErrMany, func(n *api.Net) { n.Neurons = append(slices.Repeat(n.Neurons, 512), neuronA) })
	add("too many neurons, inputs below 0", api.ErrMany, func(n *api.Net) { n.Neurons, n.Inputs = make([]api.Params, 1025), -1 })
	add("most inputs", api.OK, func(n *api.Net) { n.Inputs = 256 })
	add("too many inputs", api.ErrMany, func(n *api.Net) { n.Inputs = 257 })
	add("very many inputs", api.ErrMany, func(n *api.Net) { n.Inputs = math.MaxInt })
	add("too many inputs, a neuron", api.ErrMany, func(n *api.Net) { n.Inputs, n.Neurons[0].Thresh = 257, 0 })
	add("most synapses", api.OK, func(n *api.Net) { n.Synapses = slices.Repeat(n.Synapses, 4096) })
	add("too many synapses", api.ErrMany, func(n *api.Net) { n.Synapses = append(slices.Repeat(n.Synapses, 4096), syn(0, 0, 0, 1)) })
	add("too many synapses, inputs below 0", api.ErrMany, func(n *api.Net) { n.Synapses, n.Inputs = make([]api.Synapse, 8193), -1 })
	add("inputs below 0", api.ErrRange, func(n *api.Net) { n.Inputs = -1 })
	add("inputs far below 0", api.ErrRange, func(n *api.Net) { n.Inputs = math.MinInt })
	add("inputs below 0, a kind", api.ErrRange, func(n *api.Net) { n.Inputs, n.Neurons[0].LeakKind = -1, 9 })
	add("no inputs", api.OK, func(n *api.Net) { n.Inputs, n.Synapses = 0, nil })
	add("a kind of leak", api.ErrArg, func(n *api.Net) { n.Neurons[1].LeakKind = 3 })
	add("a threshold", api.ErrRange, func(n *api.Net) { n.Neurons[1].Thresh = 0 })
	add("a threshold, then a kind", api.ErrRange, func(n *api.Net) { n.Neurons[0].Thresh, n.Neurons[1].LeakKind = 0, 3 })
	add("a kind, then a threshold", api.ErrArg, func(n *api.Net) { n.Neurons[0].ResetKind, n.Neurons[1].Thresh = 2, 0 })
	add("a kind, and a synapse", api.ErrArg, func(n *api.Net) { n.Neurons[1].LeakKind, n.Synapses[0].To = 3, 9 })
	field := func(name string, of func(s *api.Synapse) *int, good, bad []int) {
		for _, x := range slices.Concat(good, bad) {
			want := api.OK
			if slices.Contains(bad, x) {
				want = api.ErrRange
			}
			add(name+" "+itoa(x), want, func(n *api.Net) { *of(&n.Synapses[1]) = x })
		}
	}
	field("from", func(s *api.Synapse) *int { return &s.From }, []int{-1, 0, 1}, []int{-2, 2, math.MinInt, math.MaxInt})
	field("to", func(s *api.Synapse) *int { return &s.To }, []int{0, 1}, []int{-1, 2, math.MinInt, math.MaxInt})
	field("weight", func(s *api.Synapse) *int { return &s.Weight }, []int{0, -1 << 15, 1 << 15}, []int{-1<<15 - 1, 1<<15 + 1, math.MinInt, math.MaxInt})
	field("delay", func(s *api.Synapse) *int { return &s.Delay }, []int{1, 16}, []int{0, 17, -1, math.MinInt, math.MaxInt})
	return l
}

// itoa names a number in a test.
func itoa(x int) string {
	if x < 0 {
		return "below 0: " + itoa(-(x + 1))
	}
	if x < 10 {
		return string(rune('0' + x))
	}
	return itoa(x/10) + itoa(x%10)
}

// P2.1: Check, and its error first in all other functions, whatever else is wrong.
func TestP2_1Check(t *testing.T) {
	for name, x := range checks() {
		before := cloneNet(x.n)
		if e := net.Check(x.n); e != x.want {
			t.Errorf("%s: Check: %d, want %d", name, e, x.want)
		}
		if x.want != api.OK {
			for call, e := range answers(t, x.n, ev(-1, 0), -1, nil, []int{5000}, net.Image{Tick: -1}) {
				if e != x.want {
					t.Errorf("%s: %s: %d, want %d", name, call, e, x.want)
				}
			}
		}
		if !sameNet(x.n, before) {
			t.Errorf("%s: the network was changed", name)
		}
	}
}

// P2.1: synapses between the same two neurons, and from a neuron to itself, are allowed, and each of them counts.
func TestP2_1SeveralSynapses(t *testing.T) {
	n := api.Net{Neurons: []api.Params{neuronA}, Inputs: 1, Synapses: []api.Synapse{syn(-1, 0, 3, 1), syn(-1, 0, 3, 1), syn(0, 0, 5, 2), syn(0, 0, 5, 2)}}
	for name, f := range runs {
		if l, e := f(n, ev(0, 0), 6); e != api.OK || !slices.Equal(l, ev(1, 0, 3, 0, 5, 0)) {
			t.Errorf("%s: %v, %d", name, l, e)
		}
	}
}

// P2.4: Join, for the example, and for networks with everything in them.
func TestP2_4Join(t *testing.T) {
	n, e := net.Join(netE(), netE())
	want := api.Net{Neurons: slices.Repeat([]api.Params{neuronA}, 4), Inputs: 2, Synapses: []api.Synapse{syn(-1, 0, 6, 1), syn(0, 1, 6, 3), syn(-2, 2, 6, 1), syn(2, 3, 6, 3)}}
	if e != api.OK || !sameNet(n, want) {
		t.Errorf("Join of E and E: %v, %d, want %v", n, e, want)
	}
	a := api.Net{Neurons: []api.Params{{Thresh: 1}, {Thresh: 2}, {Thresh: 3}}, Inputs: 2, Synapses: []api.Synapse{syn(-2, 2, 4, 5), syn(2, 0, -6, 7)}}
	b := api.Net{Neurons: []api.Params{{Thresh: 8}, {Thresh: 9}}, Inputs: 3, Synapses: []api.Synapse{syn(-3, 1, 10, 11), syn(-1, 0, 0, 12), syn(1, 1, 13, 14), syn(0, 1, 15, 16)}}
	want = api.Net{Neurons: []api.Params{{Thresh: 1}, {Thresh: 2}, {Thresh: 3}, {Thresh: 8}, {Thresh: 9}}, Inputs: 5, Synapses: []api.Synapse{
		syn(-2, 2, 4, 5), syn(2, 0, -6, 7), syn(-5, 4, 10, 11), syn(-3, 3, 0, 12), syn(4, 4, 13, 14), syn(3, 4, 15, 16)}}
	if n, e = net.Join(a, b); e != api.OK || !sameNet(n, want) {
		t.Errorf("Join: %v, %d, want %v", n, e, want)
	}
}

// P2.4: what does not fit together, and the order of the errors of Join.
func TestP2_4JoinErrors(t *testing.T) {
	sized := func(neurons, inputs, synapses int) api.Net {
		n := many(neuronA, neurons)
		n.Inputs, n.Synapses = inputs, slices.Repeat([]api.Synapse{syn(0, 0, 1, 1)}, synapses)
		return n
	}
	arg, bad := api.Net{}, many(api.Params{}, 1)
	for _, x := range []struct {
		a, b api.Net
		want api.Errno
	}{
		{sized(1000, 6, 8000), sized(24, 250, 192), api.OK},
		{sized(1000, 6, 8000), sized(25, 250, 192), api.ErrMany}, {sized(1000, 6, 8000), sized(24, 251, 192), api.ErrMany}, {sized(1000, 6, 8000), sized(24, 250, 193), api.ErrMany},
		{sized(1024, 256, 8192), sized(1024, 256, 8192), api.ErrMany},
		{arg, bad, api.ErrArg}, {bad, arg, api.ErrRange}, {sized(1024, 0, 0), bad, api.ErrRange}, {sized(1024, 0, 0), arg, api.ErrArg}, {arg, sized(1025, 0, 0), api.ErrArg},
	} {
		n, e := net.Join(x.a, x.b)
		if e != x.want || e != api.OK && !sameNet(n, api.Net{}) {
			t.Errorf("Join of %d and %d neurons: %d, want %d", len(x.a.Neurons), len(x.b.Neurons), e, x.want)
		}
		if e == api.OK && net.Check(n) != api.OK {
			t.Errorf("Join of %d and %d neurons is not valid", len(x.a.Neurons), len(x.b.Neurons))
		}
	}
}

// P2.4, R4: the results are new memory, also if a list has room for more, and the arguments are as before.
func TestP2_4NewMemory(t *testing.T) {
	roomy := func() api.Net {
		n := netE()
		n.Neurons, n.Synapses = slices.Grow(n.Neurons, 100), slices.Grow(n.Synapses, 100)
		return n
	}
	a, b, to := roomy(), roomy(), []int{1, 0}
	first, _ := net.Join(a, b)
	second, _ := net.Join(a, netL())
	third, _ := net.Renumber(a, to)
	if !sameNet(a, netE()) || !sameNet(b, netE()) || !slices.Equal(to, []int{1, 0}) {
		t.Errorf("an argument was changed: %v, %v, %v", a, b, to)
	}
	if !slices.Equal(first.Synapses[2:], []api.Synapse{syn(-2, 2, 6, 1), syn(2, 3, 6, 3)}) {
		t.Errorf("the second result changed the first one: %v", first)
	}
	for _, n := range []api.Net{first, second, third} {
		clear(n.Neurons)
		clear(n.Synapses)
	}
	if !sameNet(a, netE()) || !sameNet(b, netE()) {
		t.Errorf("a result shares memory with an argument: %v, %v", a, b)
	}
}

// P2.4: Renumber, for the example, and by an order that is not its own inverse.
func TestP2_4Renumber(t *testing.T) {
	n, e := net.Renumber(netE(), []int{1, 0})
	if want := (api.Net{Neurons: netE().Neurons, Inputs: 1, Synapses: []api.Synapse{syn(-1, 1, 6, 1), syn(1, 0, 6, 3)}}); e != api.OK || !sameNet(n, want) {
		t.Errorf("Renumber of E: %v, %d, want %v", n, e, want)
	}
	n = api.Net{Neurons: []api.Params{{Thresh: 1}, {Thresh: 2}, {Thresh: 3}}, Inputs: 2, Synapses: []api.Synapse{syn(2, 0, 4, 5), syn(-2, 1, 6, 7), syn(1, 1, 8, 9)}}
	want := api.Net{Neurons: []api.Params{{Thresh: 3}, {Thresh: 1}, {Thresh: 2}}, Inputs: 2, Synapses: []api.Synapse{syn(0, 1, 4, 5), syn(-2, 2, 6, 7), syn(2, 2, 8, 9)}}
	if m, e := net.Renumber(n, []int{1, 2, 0}); e != api.OK || !sameNet(m, want) {
		t.Errorf("Renumber: %v, %d, want %v", m, e, want)
	}
	if m, e := net.Renumber(n, []int{0, 1, 2}); e != api.OK || !sameNet(m, n) {
		t.Errorf("Renumber by the same numbers: %v, %d", m, e)
	}
}

// P2.4: the errors of Renumber, the first element that has one first.
func TestP2_4RenumberErrors(t *testing.T) {
	for _, x := range []struct {
		to   []int
		want api.Errno
	}{
		{nil, api.ErrShape}, {[]int{0, 1}, api.ErrShape}, {[]int{0, 1, 2, 3}, api.ErrShape}, {[]int{9, 9}, api.ErrShape},
		{[]int{0, 1, 3}, api.ErrRange}, {[]int{-1, 1, 2}, api.ErrRange}, {[]int{0, math.MaxInt, 1}, api.ErrRange}, {[]int{0, 1, math.MinInt}, api.ErrRange},
		{[]int{0, 1, 1}, api.ErrHave}, {[]int{2, 2, 3}, api.ErrHave}, {[]int{2, 3, 2}, api.ErrRange}, {[]int{-1, -1, 0}, api.ErrRange}, {[]int{2, 0, 1}, api.OK},
	} {
		n, e := net.Renumber(many(neuronA, 3), x.to)
		if e != x.want || e != api.OK && !sameNet(n, api.Net{}) {
			t.Errorf("Renumber by %v: %v, %d, want %d", x.to, n, e, x.want)
		}
	}
}

// P2.5: Reach.
func TestP2_5Reach(t *testing.T) {
	// 0 to 1 to 2 and back to 0; the input 0 to 1; the input 1 to 3, by the weight 0 alone; 3 to 4; 5 to itself.
	n := many(neuronA, 6)
	n.Inputs = 3
	n.Synapses = []api.Synapse{syn(1, 2, -1, 1), syn(0, 1, 1, 16), syn(2, 0, 5, 3), syn(-1, 1, 9, 2), syn(-2, 3, 0, 1), syn(3, 4, 1, 1), syn(3, 5, 0, 1), syn(5, 5, 2, 2)}
	for _, x := range []struct {
		from []int
		want string
		e    api.Errno
	}{
		{nil, "......", api.OK}, {[]int{}, "......", api.OK}, {[]int{0}, "###...", api.OK}, {[]int{-1}, "###...", api.OK}, {[]int{-2}, "......", api.OK}, {[]int{-3}, "......", api.OK},
		{[]int{3}, "...##.", api.OK}, {[]int{4}, "....#.", api.OK}, {[]int{5}, ".....#", api.OK}, {[]int{4, -1, 4, 5}, "###.##", api.OK}, {[]int{-3, 3, 2}, "#####.", api.OK},
		{[]int{6}, "", api.ErrRange}, {[]int{-4}, "", api.ErrRange}, {[]int{0, 1, math.MaxInt}, "", api.ErrRange}, {[]int{math.MinInt, 0}, "", api.ErrRange},
	} {
		from := slices.Clone(x.from)
		l, e := net.Reach(n, x.from)
		got := ""
		for _, y := range l {
			got += map[bool]string{false: ".", true: "#"}[y]
		}
		if got != x.want || e != x.e {
			t.Errorf("Reach from %v: %s, %d, want %s, %d", x.from, got, e, x.want, x.e)
		}
		if !slices.Equal(x.from, from) {
			t.Errorf("Reach changed its argument to %v", x.from)
		}
	}
	if l, e := net.Reach(netE(), []int{-1}); !slices.Equal(l, []bool{true, true}) || e != api.OK {
		t.Errorf("Reach of E from -1: %v, %d", l, e)
	}
	if l, e := net.Reach(netE(), []int{1}); !slices.Equal(l, []bool{false, true}) || e != api.OK {
		t.Errorf("Reach of E from 1: %v, %d", l, e)
	}
	if l, e := net.Reach(netE(), []int{2}); len(l) != 0 || e != api.ErrRange {
		t.Errorf("Reach of E from 2: %v, %d", l, e)
	}
}

// P2.5: Reach against the definition, applied until nothing more is reached.
func TestP2_5ReachAsTheModel(t *testing.T) {
	var g generator = 5
	for range 1000 {
		n := g.net(2) // many weights are 0
		var from []int
		for range g.below(3) {
			from = append(from, g.from(-n.Inputs, len(n.Neurons)-1))
		}
		want := make([]bool, len(n.Neurons))
		for range len(n.Neurons) + 1 {
			for _, x := range from {
				if x >= 0 {
					want[x] = true
				}
			}
			for _, s := range n.Synapses {
				if s.Weight != 0 && (slices.Contains(from, s.From) || s.From >= 0 && want[s.From]) {
					want[s.To] = true
				}
			}
		}
		if l, e := net.Reach(n, from); !slices.Equal(l, want) || e != api.OK {
			t.Fatalf("Reach(%v, %v): %v, %d, want %v", n, from, l, e, want)
		}
	}
}
