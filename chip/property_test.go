package chip_test

import (
	"slices"
	"testing"

	"ganglion/api"
	"ganglion/chip"
	"ganglion/net"
	"ganglion/place"
)

// P8.6, G1: a machine has the spikes of the quantised network; with an exact mapping those of the network.
func TestP8_6Spikes(t *testing.T) {
	var g generator = 17
	exact, rounded := 0, 0
	for i := range 900 {
		n, c, cores := g.job([]int{10, 40, 300, api.MaxV}[i%4])
		inputs := g.events(n, 100, g.from(1, 10))
		m, _ := place.Map(n, c, cores)
		want, e := net.Run(m.Quant.Net, inputs, 120)
		l, _, f := chip.Run(n, c, cores, inputs, 120)
		if e != api.OK || f != api.OK || !slices.Equal(l, want) {
			t.Fatalf("Run(%v, %v, %v, %v): %v, %d, want %v, %d", n, c, cores, inputs, l, f, want, e)
		}
		if !m.Quant.Exact {
			rounded++
			continue
		}
		exact++
		plain, _ := net.Run(n, inputs, 120)
		driven, _ := net.Driven(n, inputs, 120)
		if !slices.Equal(l, plain) || !slices.Equal(l, driven) {
			t.Fatalf("Run(%v, %v, %v, %v): %v, want %v, %v", n, c, cores, inputs, l, plain, driven)
		}
		if d, is, e := chip.Compare(n, c, cores, inputs, 120); is || e != api.OK {
			t.Fatalf("Compare(%v, %v, %v, %v): %v, %d", n, c, cores, inputs, d, e)
		}
	}
	if exact < 200 || rounded < 200 {
		t.Errorf("%d mappings were exact, %d were not", exact, rounded)
	}
}

// P8.6, G1: wherever the neurons of a network are, and on whatever chip, the spikes are the same.
func TestP8_6Places(t *testing.T) {
	var g generator = 19
	for range 60 {
		n := g.network(40)
		inputs := g.events(n, 60, g.from(1, 8))
		want, _ := net.Run(n, inputs, 80)
		for places := 0; places < 8; {
			c, cores := g.chip(), []int(nil)
			c.Neurons, c.Synapses, c.Bits = 64, 4096, 16
			for range n.Neurons {
				cores = append(cores, g.below(c.Mesh.Wide*c.Mesh.High))
			}
			if _, e := place.Map(n, c, cores); e != api.OK {
				continue
			}
			places++
			if l, _, e := chip.Run(n, c, cores, inputs, 80); e != api.OK || !slices.Equal(l, want) {
				t.Fatalf("Run(%v, %v, %v, %v): %v, %d, want %v", n, c, cores, inputs, l, e, want)
			}
		}
	}
}

// sim is a simulation behind some ticks, and its spikes.
func sim(t *testing.T, s *net.Sim, inputs []api.Event, end int) []api.Event {
	t.Helper()
	var l []api.Event
	for now := s.Now(); now < end; now++ {
		spikes, e := s.Step(ids(inputs, now))
		if e != api.OK {
			t.Fatalf("Step of a simulation: %d", e)
		}
		for _, i := range spikes {
			l = append(l, api.Event{Tick: now, Id: i})
		}
	}
	return l
}

// ran is the same for a machine.
func ran(t *testing.T, m *chip.Machine, inputs []api.Event, end int) []api.Event {
	t.Helper()
	var l []api.Event
	for now := m.Now(); now < end; now++ {
		for _, i := range step(t, m, ids(inputs, now)...) {
			l = append(l, api.Event{Tick: now, Id: i})
		}
	}
	return l
}

// P8.6: images of machines are those of simulations of the quantised network, and each goes on as the other.
func TestP8_6Images(t *testing.T) {
	var g generator = 23
	pending := 0
	for i := range 600 {
		n, c, cores := g.job([]int{10, 40, 300, api.MaxV}[i%4])
		inputs, cut := g.events(n, 120, g.from(1, 10)), g.below(80)
		m := newMachine(t, n, c, cores)
		q := mapping(t, m).Quant
		s, _ := net.New(q.Net)
		sim(t, s, inputs, cut)
		ran(t, m, inputs, cut)
		x, _ := s.Image()
		if !sameImage(image(t, m), x) {
			t.Fatalf("%v on %v, %v: the image in the tick %d: %v, want %v", n, c, cores, cut, image(t, m), x)
		}
		if slices.ContainsFunc(x.Due, func(row []int) bool { return slices.Max(row) > 0 }) {
			pending++
		}
		// A machine that was elsewhere loads the image, and a simulation takes up that of the machine.
		other := newMachine(t, n, c, cores)
		ran(t, other, inputs, g.below(30))
		load(t, other, x)
		r, e := net.Resume(q.Net, image(t, m))
		if e != api.OK {
			t.Fatalf("Resume: %d", e)
		}
		want := sim(t, s, inputs, 130)
		if a, b, k := ran(t, m, inputs, 130), ran(t, other, inputs, 130), sim(t, r, inputs, 130); !slices.Equal(a, want) || !slices.Equal(b, want) || !slices.Equal(k, want) {
			t.Fatalf("%v on %v, %v: behind the tick %d: %v, %v, %v, want %v", n, c, cores, cut, a, b, k, want)
		}
		y, _ := s.Image()
		if !sameImage(image(t, m), y) || !sameImage(image(t, other), y) {
			t.Fatalf("%v on %v, %v: the images at the end differ", n, c, cores)
		}
	}
	if pending < 200 {
		t.Errorf("something was due in only %d images", pending)
	}
}

// P8.6: an image can have sums and states that no run of the network leads to.
func TestP8_6Odd(t *testing.T) {
	n, c, cores := chain(), wide(3, 1), []int{2, 1}
	m := newMachine(t, n, c, cores)
	for tick := range 40 {
		x := image(t, m)
		x.Tick, x.States[1] = tick*7, api.State{V: api.MaxV - tick, Rest: tick % 2}
		for d, row := range x.Due {
			row[d%2], row[1-d%2] = (d-8)<<25, d*3-20
		}
		s, e := net.Resume(n, x)
		load(t, m, x)
		if a, b := ran(t, m, nil, tick*7+20), sim(t, s, nil, tick*7+20); e != api.OK || !slices.Equal(a, b) || len(a) == 0 {
			t.Fatalf("from %v: %v, want %v, %d", x, a, b, e)
		}
	}
}

// P8.7, G2: nothing is dropped, and the steps keep their bounds, tick by tick; sometimes they reach them.
func TestP8_7Steps(t *testing.T) {
	var g generator = 29
	reached, less := 0, 0
	for range 900 {
		n, c, cores := g.job(20)
		inputs := g.events(n, 60, g.from(1, 6))
		m := newMachine(t, n, c, cores)
		x, steps := mapping(t, m), 0
		for now := range 60 {
			before := m.Work()
			step(t, m, ids(inputs, now)...)
			w := m.Work()
			in := w.Steps - before.Steps
			steps = max(steps, in)
			if in > x.Steps || w.Most != steps || w.Steps > w.Ticks*x.Steps {
				t.Fatalf("%v on %v, %v: %d steps in the tick %d, %+v, the steps of the mapping %d", n, c, cores, in, now, w, x.Steps)
			}
		}
		if steps > 0 && steps == x.Steps {
			reached++
		} else if steps < x.Steps {
			less++
		}
	}
	if reached < 20 || less < 20 {
		t.Errorf("the bound was reached %d times, and not reached %d times", reached, less)
	}
}

// P8.8: the work is that of the spikes and events of sources with synapses; no copy is missing.
func TestP8_8Work(t *testing.T) {
	var g generator = 31
	quiet := 0
	for i := range 900 {
		n, c, cores := g.job([]int{10, 40, 300}[i%3])
		inputs := g.events(n, 60, g.from(1, 6))
		spikes, w, e := chip.Run(n, c, cores, inputs, 60)
		if e != api.OK {
			t.Fatalf("Run: %d", e)
		}
		x := newModel(t, n, c, cores)
		want := chip.Work{Ticks: 60, Updates: 60 * len(n.Neurons), Spikes: len(spikes), Steps: w.Steps, Most: w.Most}
		sent := func(source int) {
			targets, rows := map[int]bool{}, 0
			for _, s := range n.Synapses {
				if s.From == source {
					targets[cores[s.To]] = true
					rows++
				}
			}
			if rows == 0 {
				quiet++
				return
			}
			if source < 0 {
				source = len(n.Neurons) - 1 - source
			}
			want.Packets++
			want.Arrivals += len(targets)
			want.Rows += rows
			want.Hops += x.links(source)
		}
		for _, y := range spikes {
			sent(y.Id)
		}
		for _, y := range inputs {
			sent(-1 - y.Id)
		}
		if w != want {
			t.Fatalf("Run(%v, %v, %v, %v): %+v, want %+v", n, c, cores, inputs, w, want)
		}
	}
	if quiet < 1000 {
		t.Errorf("only %d spikes and events of sources without synapses", quiet)
	}
}

// P8.8: the sum of the links of all trees is the cost of the mapping, if each source sends once.
func TestP8_8Cost(t *testing.T) {
	var g generator = 37
	for range 300 {
		n, c, cores := g.job(20)
		var in []int
		for i := range n.Neurons {
			n.Neurons[i] = always(1)[0]
		}
		for i := range n.Inputs {
			in = append(in, i)
		}
		m := newMachine(t, n, c, cores)
		step(t, m, in...)
		if x := mapping(t, m); m.Work().Hops != x.Cost || m.Work().Rows != len(n.Synapses) {
			t.Fatalf("%v on %v, %v: %+v, the cost %d", n, c, cores, m.Work(), x.Cost)
		}
	}
}
