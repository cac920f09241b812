package chip_test

import (
	"math"
	"slices"
	"testing"

	"ganglion/api"
	"ganglion/chip"
	"ganglion/net"
	"ganglion/place"
)

// P8.4: the example of the chapter.
func TestP8_4Run(t *testing.T) {
	l, w, e := chip.Run(chain(), pair(), []int{0, 1}, ev(0, 0), 6)
	if e != api.OK || !slices.Equal(l, ev(1, 0, 4, 1)) || w != (chip.Work{Ticks: 6, Updates: 12, Spikes: 2, Packets: 2, Hops: 1, Arrivals: 2, Rows: 2, Steps: 3, Most: 2}) {
		t.Errorf("Run: %v, %+v, %d", l, w, e)
	}
	// Events in later ticks do nothing, and without ticks nothing happens.
	l, w, e = chip.Run(chain(), pair(), []int{0, 1}, ev(0, 0, 2, 0, 9999, 0), 2)
	if e != api.OK || !slices.Equal(l, ev(1, 0)) || w.Packets != 2 || w.Ticks != 2 {
		t.Errorf("Run of two ticks: %v, %+v, %d", l, w, e)
	}
	if l, w, e := chip.Run(chain(), pair(), []int{0, 1}, ev(0, 0), 0); e != api.OK || len(l) > 0 || w != (chip.Work{}) {
		t.Errorf("Run of no ticks: %v, %+v, %d", l, w, e)
	}
}

// P8.4: the errors of Run and Compare: those of place.Map, then those of ticks and inputs.
func TestP8_4Errors(t *testing.T) {
	full := pair()
	full.Entries = 1
	late, wrong := ev(0, 0, api.MaxTicks, 0), ev(0, 0, 0, 1, 0, 0)
	many := make([]api.Event, api.MaxEvents+1)
	for name, x := range map[string]struct {
		n      api.Net
		c      place.Chip
		cores  []int
		inputs []api.Event
		ticks  int
		want   api.Errno
	}{
		"the network first":          {api.Net{}, place.Chip{}, nil, wrong, -1, api.ErrArg},
		"then the chip":              {chain(), place.Chip{}, nil, many, -1, api.ErrRange},
		"then the cores":             {chain(), pair(), []int{0}, many, -1, api.ErrShape},
		"then the space":             {chain(), pair(), []int{0, 0}, many, -1, api.ErrFull},
		"then the tables":            {chain(), full, []int{0, 1}, many, -1, api.ErrFull},
		"then the ticks":             {chain(), pair(), []int{0, 1}, many, -1, api.ErrRange},
		"too many ticks":             {chain(), pair(), []int{0, 1}, many, 10001, api.ErrRange},
		"the most ticks of all":      {chain(), pair(), []int{0, 1}, nil, math.MaxInt, api.ErrRange},
		"the least ticks of all":     {chain(), pair(), []int{0, 1}, nil, math.MinInt, api.ErrRange},
		"the most ticks":             {chain(), pair(), []int{0, 1}, nil, 10000, api.OK},
		"too many events":            {chain(), pair(), []int{0, 1}, many, 1, api.ErrMany},
		"the first event":            {chain(), pair(), []int{0, 1}, many[1:], 1, api.ErrArg},
		"an event that is late":      {chain(), pair(), []int{0, 1}, late, 1, api.ErrRange},
		"an event before all":        {chain(), pair(), []int{0, 1}, ev(-1, 0), 1, api.ErrRange},
		"an event at no input":       {chain(), pair(), []int{0, 1}, wrong, 0, api.ErrRange},
		"an event at the input -1":   {chain(), pair(), []int{0, 1}, ev(0, -1), 0, api.ErrRange},
		"an event twice":             {chain(), pair(), []int{0, 1}, ev(3, 0, 3, 0), 1, api.ErrArg},
		"events that are not sorted": {chain(), pair(), []int{0, 1}, ev(3, 0, 2, 0), 1, api.ErrArg},
		"the last tick":              {chain(), pair(), []int{0, 1}, ev(9999, 0), 1, api.OK},
	} {
		l, w, e := chip.Run(x.n, x.c, x.cores, x.inputs, x.ticks)
		if e != x.want || e != api.OK && (len(l) > 0 || w != chip.Work{}) {
			t.Errorf("Run, %s: %v, %+v, %d, want %d", name, l, w, e, x.want)
		}
		d, is, e := chip.Compare(x.n, x.c, x.cores, x.inputs, x.ticks)
		if e != x.want || is || d.Tick != 0 || len(d.Network) > 0 || len(d.Chip) > 0 {
			t.Errorf("Compare, %s: %v, %v, %d, want %d", name, d, is, e, x.want)
		}
	}
}

// P8.4: there are at most MaxEvents spikes on the chip.
func TestP8_4Long(t *testing.T) {
	n := api.Net{Neurons: always(16)}
	cores := make([]int, 16)
	for ticks, want := range map[int]api.Errno{4096: api.OK, 4097: api.ErrLong, 10000: api.ErrLong} {
		l, w, e := chip.Run(n, wide(1, 1), cores, nil, ticks)
		if e != want || e == api.OK && (len(l) != api.MaxEvents || w.Spikes != api.MaxEvents) || e != api.OK && (len(l) > 0 || w != chip.Work{}) {
			t.Errorf("Run of %d ticks: %d spikes, %+v, %d", ticks, len(l), w, e)
		}
		if d, is, e := chip.Compare(n, wide(1, 1), cores, nil, ticks); is || e != want || d.Tick != 0 {
			t.Errorf("Compare of %d ticks: %v, %v, %d", ticks, d, is, e)
		}
	}
}

// led is a network in which a neuron that spikes in every tick leads to 15 others with a weight that 2 bits make 0,
// because of a greater weight; where they go without it is decided by their bias.
func led(bias, weight int) (api.Net, place.Chip, []int) {
	n := api.Net{Neurons: always(1), Inputs: 1}
	for i := 1; i < 16; i++ {
		n.Neurons = append(n.Neurons, api.Params{Bias: bias, Thresh: 5, Floor: -5})
		n.Synapses = append(n.Synapses, syn(0, i, weight, 1), syn(-1, i, 100, 1))
	}
	c := wide(2, 4)
	c.Bits = 2
	return n, c, []int{0, 0, 0, 0, 0, 0, 0, 0, 1, 1, 1, 1, 1, 1, 1, 1}
}

// P8.4: only the spikes on the chip can be too many, also behind the first tick with a difference.
func TestP8_4LongCompare(t *testing.T) {
	n, c, cores := led(0, 5)
	if _, e := net.Run(n, nil, 10000); e != api.ErrLong {
		t.Fatalf("net.Run: %d", e)
	}
	if l, _, e := chip.Run(n, c, cores, nil, 10000); e != api.OK || len(l) != 10000 {
		t.Errorf("Run: %d spikes, %d", len(l), e)
	}
	d, is, e := chip.Compare(n, c, cores, nil, 10000)
	if !is || e != api.OK || d.Tick != 1 || !slices.Equal(d.Network, []int{0, 1, 2, 3, 4, 5, 6, 7, 8, 9, 10, 11, 12, 13, 14, 15}) || !slices.Equal(d.Chip, []int{0}) {
		t.Errorf("Compare: %v, %v, %d", d, is, e)
	}
	n, c, cores = led(5, -5)
	if l, e := net.Run(n, nil, 10000); e != api.OK || len(l) != 10015 {
		t.Fatalf("net.Run: %d spikes, %d", len(l), e)
	}
	if l, _, e := chip.Run(n, c, cores, nil, 10000); e != api.ErrLong || len(l) > 0 {
		t.Errorf("Run: %d spikes, %d", len(l), e)
	}
	d, is, e = chip.Compare(n, c, cores, nil, 10000)
	if is || e != api.ErrLong || d.Tick != 0 || len(d.Network) > 0 || len(d.Chip) > 0 {
		t.Errorf("Compare: %v, %v, %d", d, is, e)
	}
	if d, is, e := chip.Compare(n, c, cores, nil, 4096); !is || e != api.OK || d.Tick != 1 || !slices.Equal(d.Network, []int{0}) || len(d.Chip) != 16 {
		t.Errorf("Compare of 4096 ticks: %v, %v, %d", d, is, e)
	}
}

// P8.4: the examples of the chapter, and differences that come later.
func TestP8_4Compare(t *testing.T) {
	if d, is, e := chip.Compare(chain(), pair(), []int{0, 1}, ev(0, 0), 6); is || e != api.OK || d.Tick != 0 || len(d.Network) > 0 || len(d.Chip) > 0 {
		t.Errorf("Compare: %v, %v, %d", d, is, e)
	}
	two := pair()
	two.Bits = 2
	for ticks, want := range map[int]bool{0: false, 1: false, 2: true, 6: true} {
		d, is, e := chip.Compare(chain(), two, []int{0, 1}, ev(0, 0), ticks)
		if is != want || e != api.OK || is && (d.Tick != 1 || !slices.Equal(d.Network, []int{0}) || len(d.Chip) > 0) {
			t.Errorf("Compare with 2 bits, %d ticks: %v, %v, %d", ticks, d, is, e)
		}
	}
	// The neuron 0 is driven by 6, which 2 bits make 4, in the tick 5.
	if d, is, e := chip.Compare(chain(), two, []int{1, 0}, ev(4, 0), 6); !is || e != api.OK || d.Tick != 5 || !slices.Equal(d.Network, []int{0}) || len(d.Chip) > 0 {
		t.Errorf("Compare with 2 bits, later: %v, %v, %d", d, is, e)
	}
	// Differences of weights that do not matter are none.
	n := chain()
	n.Neurons = append(n.Neurons, neurons(1)...)
	n.Synapses = append(n.Synapses, syn(-1, 2, 9, 1), syn(-1, 2, 5, 2))
	two.Neurons, two.Bits = 3, 3
	if m, e := place.Map(n, two, []int{0, 0, 0}); e != api.OK || m.Quant.Exact {
		t.Fatalf("Map: %v, %d", m, e)
	}
	if d, is, e := chip.Compare(n, two, []int{0, 0, 0}, ev(0, 0), 30); is || e != api.OK {
		t.Errorf("Compare with 3 bits: %v, %v, %d", d, is, e)
	}
}

// P8.4: Run and Compare are as the runs of the network and of the quantised network say.
func TestP8_4Model(t *testing.T) {
	var g generator = 13
	same, other := 0, 0
	for i := range 900 {
		n, c, cores := g.job([]int{10, 40, 300, api.MaxV}[i%4])
		inputs, ticks := g.events(n, 80, g.from(1, 10)), g.below(100)
		want := newModel(t, n, c, cores)
		var spikes []api.Event
		for now := range ticks {
			for _, k := range want.step(ids(inputs, now)) {
				spikes = append(spikes, api.Event{Tick: now, Id: k})
			}
		}
		l, w, e := chip.Run(n, c, cores, inputs, ticks)
		if e != api.OK || !slices.Equal(l, spikes) || w != want.work {
			t.Fatalf("Run(%v, %v, %v, %v, %d): %v, %+v, %d, want %v, %+v", n, c, cores, inputs, ticks, l, w, e, spikes, want.work)
		}
		plain, e := net.Run(n, inputs, ticks)
		if e != api.OK {
			t.Fatalf("net.Run: %d", e)
		}
		d, is, e := chip.Compare(n, c, cores, inputs, ticks)
		var k chip.Difference
		differs := false
		for now := 0; now < ticks && !differs; now++ {
			if a, b := ids(plain, now), ids(spikes, now); !slices.Equal(a, b) {
				k, differs = chip.Difference{Tick: now, Network: a, Chip: b}, true
			}
		}
		if e != api.OK || is != differs || d.Tick != k.Tick || !slices.Equal(d.Network, k.Network) || !slices.Equal(d.Chip, k.Chip) {
			t.Fatalf("Compare(%v, %v, %v, %v, %d): %v, %v, %d, want %v, %v", n, c, cores, inputs, ticks, d, is, e, k, differs)
		}
		if differs {
			other++
		} else {
			same++
		}
	}
	if same < 100 || other < 100 {
		t.Errorf("%d runs are the same, %d differ", same, other)
	}
}

// P8.5: the example of the chapter, the energy of each thing alone, and the greatest one.
func TestP8_5Energy(t *testing.T) {
	w := chip.Work{Ticks: 6, Updates: 12, Spikes: 2, Packets: 2, Hops: 1, Arrivals: 2, Rows: 2, Steps: 3, Most: 2}
	great := chip.Work{Ticks: 1e9, Updates: 1e9, Spikes: 1e9, Packets: 1e9, Hops: 1e9, Arrivals: 1e9, Rows: 1e9, Steps: 1e9, Most: 1e9}
	for _, x := range []struct {
		w    chip.Work
		p    chip.Prices
		want int
	}{
		{w, chip.Prices{Update: 1, Spike: 2, Hop: 3, Row: 4, Step: 5}, 42},
		{w, chip.Prices{}, 0},
		{chip.Work{}, chip.Prices{Update: 1, Spike: 2, Hop: 3, Row: 4, Step: 5}, 0},
		{chip.Work{Ticks: 1, Updates: 2, Spikes: 3, Packets: 4, Hops: 5, Arrivals: 6, Rows: 7, Steps: 8, Most: 9}, chip.Prices{Update: 1, Spike: 100, Hop: 10000, Row: 1000000}, 7050302},
		{chip.Work{Ticks: 1, Updates: 2, Spikes: 3, Packets: 4, Hops: 5, Arrivals: 6, Rows: 7, Steps: 8, Most: 9}, chip.Prices{Step: 1000000}, 8000000},
		{great, chip.Prices{Update: 1000000, Spike: 1000000, Hop: 1000000, Row: 1000000, Step: 1000000}, 5e15},
	} {
		if e, code := chip.Energy(x.w, x.p); e != x.want || code != api.OK {
			t.Errorf("Energy(%+v, %+v): %d, %d, want %d", x.w, x.p, e, code, x.want)
		}
	}
}

// P8.5: each number of the work, and each price, has its range.
func TestP8_5Errors(t *testing.T) {
	for i := range 14 {
		most := chip.MaxPrice
		if i < 9 {
			most = 1000000000
		}
		for x, want := range map[int]api.Errno{0: api.OK, most: api.OK, -1: api.ErrRange, most + 1: api.ErrRange, math.MinInt: api.ErrRange, math.MaxInt: api.ErrRange} {
			w, p := chip.Work{Updates: 1, Spikes: 1, Hops: 1, Rows: 1, Steps: 1}, chip.Prices{Update: 1, Spike: 1, Hop: 1, Row: 1, Step: 1}
			fields := []*int{&w.Ticks, &w.Updates, &w.Spikes, &w.Packets, &w.Hops, &w.Arrivals, &w.Rows, &w.Steps, &w.Most, &p.Update, &p.Spike, &p.Hop, &p.Row, &p.Step}
			*fields[i] = x
			if energy, e := chip.Energy(w, p); e != want || e != api.OK && energy != 0 {
				t.Errorf("Energy(%+v, %+v): %d, %d, want %d", w, p, energy, e, want)
			}
		}
	}
	if chip.MaxPrice != 1000000 {
		t.Errorf("MaxPrice: %d", chip.MaxPrice)
	}
}
