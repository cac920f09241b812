package chip_test

import (
	"math"
	"slices"
	"testing"

	"ganglion/api"
	"ganglion/chip"
	"ganglion/mesh"
	"ganglion/net"
	"ganglion/place"
)

func syn(from, to, weight, delay int) api.Synapse {
	return api.Synapse{From: from, To: to, Weight: weight, Delay: delay}
}

// ev returns events, of which Tick and Id are given in turns.
func ev(l ...int) []api.Event {
	var out []api.Event
	for i := 0; i < len(l); i += 2 {
		out = append(out, api.Event{Tick: l[i], Id: l[i+1]})
	}
	return out
}

// neurons are so many neurons A of the document.
func neurons(n int) []api.Params {
	return slices.Repeat([]api.Params{{LeakKind: api.LeakLine, Leak: 1, Thresh: 5, Floor: -4, Rest: 1}}, n)
}

// always are so many neurons that spike in every tick.
func always(n int) []api.Params { return slices.Repeat([]api.Params{{Bias: 1, Thresh: 1}}, n) }

// chain is the network E of the document, and pair the chip C of chapter 7.
func chain() api.Net {
	return api.Net{Neurons: neurons(2), Inputs: 1, Synapses: []api.Synapse{syn(-1, 0, 6, 1), syn(0, 1, 6, 3)}}
}

func pair() place.Chip {
	return place.Chip{Mesh: mesh.Spec{Wide: 2, High: 1, Room: 1}, Neurons: 1, Synapses: 4, Entries: 4, Bits: 3}
}

// wide is a chip of so many cores in a row, with space for everything.
func wide(cores, room int) place.Chip {
	return place.Chip{Mesh: mesh.Spec{Wide: cores, High: 1, Room: room}, Neurons: 64, Synapses: 4096, Entries: 1024, Bits: 16}
}

func cloneNet(n api.Net) api.Net {
	return api.Net{Neurons: slices.Clone(n.Neurons), Inputs: n.Inputs, Synapses: slices.Clone(n.Synapses)}
}

func cloneImage(x net.Image) net.Image {
	y := net.Image{Tick: x.Tick, States: slices.Clone(x.States)}
	for _, row := range x.Due {
		y.Due = append(y.Due, slices.Clone(row))
	}
	return y
}

func sameNet(a, b api.Net) bool {
	return slices.Equal(a.Neurons, b.Neurons) && a.Inputs == b.Inputs && slices.Equal(a.Synapses, b.Synapses)
}

func sameImage(a, b net.Image) bool {
	return a.Tick == b.Tick && slices.Equal(a.States, b.States) && slices.EqualFunc(a.Due, b.Due, slices.Equal[[]int])
}

func sameMapping(a, b place.Mapping) bool {
	p, q := a.Quant, b.Quant
	return slices.Equal(a.Cores, b.Cores) && slices.Equal(a.Slots, b.Slots) && sameNet(p.Net, q.Net) &&
		slices.Equal(p.Scales, q.Scales) && slices.Equal(p.Quots, q.Quots) && slices.Equal(p.Errors, q.Errors) && p.Exact == q.Exact &&
		slices.EqualFunc(a.Rows, b.Rows, slices.Equal[[]place.Row]) && slices.EqualFunc(a.Tables, b.Tables, slices.Equal[[]mesh.Entry]) &&
		slices.Equal(a.Waves, b.Waves) && a.Cost == b.Cost && a.Load == b.Load && a.Steps == b.Steps
}

// The functions for arguments that are known to be valid.

func newMachine(t *testing.T, n api.Net, c place.Chip, cores []int) *chip.Machine {
	t.Helper()
	m, e := chip.New(n, c, cores)
	if e != api.OK {
		t.Fatalf("New(%v, %v, %v): the error %d", n, c, cores, e)
	}
	return m
}

func step(t *testing.T, m *chip.Machine, inputs ...int) []int {
	t.Helper()
	l, e := m.Step(inputs)
	if e != api.OK {
		t.Fatalf("Step(%v) in the tick %d: the error %d", inputs, m.Now(), e)
	}
	return l
}

func image(t *testing.T, m *chip.Machine) net.Image {
	t.Helper()
	x, e := m.Image()
	if e != api.OK {
		t.Fatalf("Image: the error %d", e)
	}
	return x
}

func mapping(t *testing.T, m *chip.Machine) place.Mapping {
	t.Helper()
	x, e := m.Mapping()
	if e != api.OK {
		t.Fatalf("Mapping: the error %d", e)
	}
	return x
}

func load(t *testing.T, m *chip.Machine, x net.Image) {
	t.Helper()
	if e := m.Load(x); e != api.OK {
		t.Fatalf("Load(%v): the error %d", x, e)
	}
}

// edges are numbers at and around all bounds, and the greatest ones of all.
var edges = []int{0, 1, -1, 2, 3, 16, 17, 64, 65, 256, 257, 1000, 1024, 1025, 9999, 10000, 10001, 1 << 15, 1<<15 + 1, 1000000, 1000001, 1000000000, 1000000001, 1 << 28, 1<<28 + 1, math.MaxInt, math.MinInt, math.MaxInt - 1, math.MinInt + 1}

// anyJob draws a network, a chip and an assignment of which some numbers can be wrong.
func (g *generator) anyJob() (api.Net, place.Chip, []int) {
	n, c, cores := g.job(40)
	n, cores = cloneNet(n), slices.Clone(cores)
	for range g.below(2) {
		field := []*int{&c.Mesh.Wide, &c.Mesh.Room, &c.Neurons, &c.Synapses, &c.Entries, &c.Bits, &n.Inputs, &n.Neurons[0].Thresh, &cores[0]}
		*field[g.below(len(field))] = g.one(edges...)
	}
	if g.below(10) == 0 {
		n.Synapses = append(n.Synapses, syn(g.one(edges...), g.one(edges...), g.one(edges...), g.one(edges...)))
	}
	if g.below(10) == 0 {
		cores = append(cores, 0)
	}
	return n, c, cores
}

// P0, R2, R4: whatever the arguments are, every function returns, has nothing with an error, and changes no argument.
func TestP0AnyArguments(t *testing.T) {
	var g generator = 3
	codes := map[api.Errno]int{}
	for range 6000 {
		n, c, cores := g.anyJob()
		inputs, ticks := ev(g.one(0, 1, 2, g.one(edges...)), g.one(0, 1, g.one(edges...)), g.one(2, 3, g.one(edges...)), g.one(0, 1)), g.one(0, 5, 20, 40, g.one(edges...))
		before, given, events := cloneNet(n), slices.Clone(cores), slices.Clone(inputs)
		_, want := place.Map(n, c, cores)
		m, e := chip.New(n, c, cores)
		if e != want || (m == nil) != (e != api.OK) {
			t.Fatalf("New(%v, %v, %v): the error %d, want %d", n, c, cores, e, want)
		}
		if e == api.OK {
			g.anySteps(t, n, m)
		}
		if want == api.OK {
			if ticks < 0 || ticks > api.MaxTicks {
				want = api.ErrRange
			} else {
				_, want = net.Run(n, inputs, 0)
			}
		}
		l, w, e := chip.Run(n, c, cores, inputs, ticks)
		d, is, f := chip.Compare(n, c, cores, inputs, ticks)
		if e != f || e != want && (want != api.OK || e != api.ErrLong) {
			t.Fatalf("Run(%v, %v, %v, %v, %d): %d, Compare: %d, want %d", n, c, cores, inputs, ticks, e, f, want)
		}
		if e != api.OK && (len(l) > 0 || w != chip.Work{} || is) || !is && (d.Tick != 0 || len(d.Network) > 0 || len(d.Chip) > 0) {
			t.Fatalf("Run(%v, %v, %v, %v, %d): %v, %v, Compare: %v, with the error %d", n, c, cores, inputs, ticks, l, w, d, e)
		}
		codes[e]++
		if !sameNet(n, before) || !slices.Equal(cores, given) || !slices.Equal(inputs, events) {
			t.Fatalf("the arguments %v, %v, %v were changed", before, given, events)
		}
	}
	for _, e := range []api.Errno{api.OK, api.ErrRange, api.ErrArg, api.ErrShape, api.ErrFull} {
		if codes[e] < 50 {
			t.Errorf("only %d cases with the error %d", codes[e], e)
		}
	}
}

// anySteps lets a machine do ticks and load images of which some numbers can be wrong; with an error it stays as it is.
func (g *generator) anySteps(t *testing.T, n api.Net, m *chip.Machine) {
	t.Helper()
	for range 4 {
		x, w := image(t, m), m.Work()
		in := [][]int{nil, {0}, {1}, {0, 1}, {g.one(edges...)}, {g.one(edges...), g.one(edges...)}}[g.below(6)]
		l, e := m.Step(in)
		if e != api.OK && (len(l) > 0 || !sameImage(image(t, m), x) || m.Work() != w) {
			t.Fatalf("Step(%v) with the error %d: %v, and the machine has changed", in, e, l)
		}
		y := cloneImage(image(t, m))
		switch g.below(4) {
		case 0:
			y.Tick = g.one(edges...)
		case 1:
			y.States[0] = api.State{V: g.one(edges...), Rest: g.one(edges...)}
		case 2:
			y.Due[g.below(16)][0] = g.one(edges...)
		}
		x, w = image(t, m), m.Work()
		z := cloneImage(y)
		_, want := net.Resume(n, y)
		if e := m.Load(y); e != want || e == api.OK && !sameImage(image(t, m), y) || e != api.OK && !sameImage(image(t, m), x) || m.Work() != w || !sameImage(y, z) {
			t.Fatalf("Load(%v): the error %d, want %d, or a wrong state", y, e, want)
		}
	}
}

// P0, R3: a machine that no function of the package made.
func TestP0NoMachine(t *testing.T) {
	m := newMachine(t, chain(), pair(), []int{0, 1})
	step(t, m, 0)
	x, assigned := image(t, m), *m
	for name, m := range map[string]*chip.Machine{"nil": nil, "zero": {}, "new": new(chip.Machine), "assigned": &assigned} {
		if l, e := m.Step([]int{99}); len(l) > 0 || e != api.ErrNil {
			t.Errorf("%s: Step: %v, %d", name, l, e)
		}
		if y, e := m.Image(); !sameImage(y, net.Image{}) || e != api.ErrNil {
			t.Errorf("%s: Image: %v, %d", name, y, e)
		}
		if y, e := m.Mapping(); !sameMapping(y, place.Mapping{}) || e != api.ErrNil {
			t.Errorf("%s: Mapping: %v, %d", name, y, e)
		}
		if e := m.Load(net.Image{}); e != api.ErrNil {
			t.Errorf("%s: Load: %d", name, e)
		}
		if e := m.Load(x); e != api.ErrNil {
			t.Errorf("%s: Load of an image: %d", name, e)
		}
		if m.Now() != 0 || m.Work() != (chip.Work{}) || m.Copy() != nil {
			t.Errorf("%s: Now: %d, Work: %v, Copy: %v", name, m.Now(), m.Work(), m.Copy())
		}
	}
	if m.Now() != 1 || !slices.Equal(step(t, m), []int{0}) {
		t.Error("the machine itself has changed")
	}
}

// P0: the greatest network on the greatest chip, with packets in as many waves as there can be, is done in time.
func TestP0Greatest(t *testing.T) {
	n := api.Net{Neurons: always(256)}
	var cores []int
	for i := range 256 {
		cores = append(cores, i*37%64)
		for k := range 32 {
			n.Synapses = append(n.Synapses, syn(i, k*8, 1, 1+k%16))
		}
	}
	c := place.Chip{Mesh: mesh.Spec{Wide: 8, High: 8, Room: 1}, Neurons: 64, Synapses: 4096, Entries: 1024, Bits: 16}
	for _, room := range []int{1, 64} {
		c.Mesh.Room = room
		l, w, e := chip.Run(n, c, cores, nil, 32)
		if e != api.OK || len(l) != 32*256 || w.Packets != 32*256 || w.Rows != 32*8192 {
			t.Errorf("Room %d: %d spikes, %+v, %d", room, len(l), w, e)
		}
	}
}

// P8.1: New returns the errors of place.Map, in their order.
func TestP8_1New(t *testing.T) {
	full, dead := pair(), pair()
	full.Entries = 1
	dead.Dead = []int{1}
	for name, x := range map[string]struct {
		n     api.Net
		c     place.Chip
		cores []int
		want  api.Errno
	}{
		"nothing at all":   {api.Net{}, place.Chip{}, nil, api.ErrArg},
		"no chip":          {chain(), place.Chip{}, nil, api.ErrRange},
		"too many sources": {api.Net{Neurons: neurons(257)}, pair(), nil, api.ErrMany},
		"no cores":         {chain(), pair(), nil, api.ErrShape},
		"a core too many":  {chain(), pair(), []int{0, 1, 1}, api.ErrShape},
		"no such core":     {chain(), pair(), []int{0, 2}, api.ErrRange},
		"a dead core":      {chain(), dead, []int{0, 1}, api.ErrDown},
		"no space":         {chain(), pair(), []int{1, 1}, api.ErrFull},
		"small tables":     {chain(), full, []int{0, 1}, api.ErrFull},
		"valid":            {chain(), pair(), []int{0, 1}, api.OK},
	} {
		m, e := chip.New(x.n, x.c, x.cores)
		if _, f := place.Map(x.n, x.c, x.cores); e != x.want || f != x.want || (m == nil) != (e != api.OK) {
			t.Errorf("%s: New: %v, %d, Map: %d, want %d", name, m, e, f, x.want)
		}
	}
}

// P8.1: a new machine is before the tick 0, with all neurons in the state at first, and nothing due.
func TestP8_1Begin(t *testing.T) {
	m := newMachine(t, chain(), pair(), []int{1, 0})
	s, _ := net.New(chain())
	x, _ := s.Image()
	if m.Now() != 0 || m.Work() != (chip.Work{}) || !sameImage(image(t, m), x) {
		t.Errorf("the tick %d, the work %+v, the image %v", m.Now(), m.Work(), image(t, m))
	}
	for want := 1; want < 5; want++ {
		step(t, m)
		if m.Now() != want {
			t.Errorf("Now: %d, want %d", m.Now(), want)
		}
	}
}

// P8.1, R4: Mapping returns the mapping, at any time, in new memory.
func TestP8_1Mapping(t *testing.T) {
	var g generator = 5
	for range 300 {
		n, c, cores := g.job(40)
		want, e := place.Map(n, c, cores)
		m := newMachine(t, n, c, cores)
		// What was given belongs to the caller.
		clear(n.Neurons)
		clear(n.Synapses)
		clear(cores)
		clear(c.Dead)
		step(t, m)
		for range 2 {
			x := mapping(t, m)
			if e != api.OK || !sameMapping(x, want) || !sameMapping(mapping(t, m.Copy()), want) {
				t.Fatalf("Mapping: %v, want %v", x, want)
			}
			overwrite(x)
		}
		step(t, m)
		if !sameMapping(mapping(t, m), want) {
			t.Fatal("a mapping that is shared")
		}
	}
}

// overwrite clears all lists of a mapping.
func overwrite(x place.Mapping) {
	for _, l := range [][]int{x.Cores, x.Slots, x.Waves, x.Quant.Scales, x.Quant.Quots, x.Quant.Errors} {
		clear(l)
	}
	clear(x.Quant.Net.Neurons)
	clear(x.Quant.Net.Synapses)
	for i := range x.Rows {
		clear(x.Rows[i])
		clear(x.Tables[i])
	}
	clear(x.Rows)
	clear(x.Tables)
}

// P8.1: a copy is in the same state, with the same work, and both go on without each other.
func TestP8_1Copy(t *testing.T) {
	var g generator = 7
	for range 300 {
		n, c, cores := g.job(40)
		inputs, cut := g.events(n, 60, g.from(1, 8)), g.below(40)
		m := newMachine(t, n, c, cores)
		for now := range cut {
			step(t, m, ids(inputs, now)...)
		}
		a, w := m.Copy(), m.Work()
		x := image(t, m)
		if a.Now() != cut || a.Work() != w || !sameImage(image(t, a), x) {
			t.Fatalf("Copy: the tick %d, the work %+v, want %d, %+v", a.Now(), a.Work(), cut, w)
		}
		want := newModel(t, n, c, cores)
		want.load(x)
		want.work = w
		b := m.Copy()
		var l [][]int
		for now := cut; now < 60; now++ {
			l = append(l, want.step(ids(inputs, now)))
			step(t, b)
		}
		for name, m := range map[string]*chip.Machine{"copy": a, "machine": m} {
			for i, k := range l {
				if got := step(t, m, ids(inputs, cut+i)...); !slices.Equal(got, k) {
					t.Fatalf("the %s in the tick %d: %v, want %v", name, cut+i, got, k)
				}
			}
			if m.Work() != want.work || !sameImage(image(t, m), want.image()) {
				t.Fatalf("the %s: %+v, want %+v", name, m.Work(), want.work)
			}
		}
	}
}

// P8.2: the example of the chapter, and spikes in the order of the network wherever the neurons are.
func TestP8_2Step(t *testing.T) {
	m := newMachine(t, chain(), pair(), []int{0, 1})
	for tick, want := range [][]int{nil, {0}, nil, nil, {1}, nil} {
		var in []int
		if tick == 0 {
			in = []int{0}
		}
		if l := step(t, m, in...); !slices.Equal(l, want) {
			t.Errorf("the tick %d: %v, want %v", tick, l, want)
		}
	}
	if w := m.Work(); w != (chip.Work{Ticks: 6, Updates: 12, Spikes: 2, Packets: 2, Hops: 1, Arrivals: 2, Rows: 2, Steps: 3, Most: 2}) {
		t.Errorf("Work: %+v", w)
	}
	m = newMachine(t, api.Net{Neurons: always(7)}, wide(4, 1), []int{3, 0, 2, 1, 0, 3, 2})
	for range 20 {
		if l := step(t, m); !slices.Equal(l, []int{0, 1, 2, 3, 4, 5, 6}) {
			t.Fatalf("Step: %v", l)
		}
	}
}

// P8.2: the errors of Step; with one of them nothing has changed.
func TestP8_2Errors(t *testing.T) {
	n := api.Net{Neurons: neurons(1), Inputs: 3, Synapses: []api.Synapse{syn(-3, 0, 5, 1)}}
	m := newMachine(t, n, wide(1, 1), []int{0})
	for _, x := range []struct {
		in   []int
		want api.Errno
	}{
		{[]int{3}, api.ErrRange},
		{[]int{-1}, api.ErrRange},
		{[]int{math.MaxInt}, api.ErrRange},
		{[]int{math.MinInt}, api.ErrRange},
		{[]int{0, 0}, api.ErrArg},
		{[]int{2, 1}, api.ErrArg},
		{[]int{2, -1}, api.ErrRange},
		{[]int{1, 0, 3}, api.ErrArg},
		{[]int{0, 3, 0}, api.ErrRange},
	} {
		if l, e := m.Step(x.in); e != x.want || len(l) > 0 || m.Now() != 0 || m.Work() != (chip.Work{}) {
			t.Errorf("Step(%v): %v, %d, want %d; the tick %d", x.in, l, e, x.want, m.Now())
		}
	}
	in := []int{0, 1, 2}
	step(t, m, in...)
	if l := step(t, m); !slices.Equal(l, []int{0}) || !slices.Equal(in, []int{0, 1, 2}) {
		t.Errorf("Step: %v behind the inputs %v", l, in)
	}
	if _, e := newMachine(t, api.Net{Neurons: neurons(1)}, wide(1, 1), []int{0}).Step([]int{0}); e != api.ErrRange {
		t.Errorf("Step with an input, without inputs: %d", e)
	}
}

// P8.2: there are MaxTicks ticks, and then ErrLong, before the errors of inputs.
func TestP8_2Long(t *testing.T) {
	n := api.Net{Neurons: always(1), Inputs: 1}
	m := newMachine(t, n, wide(1, 1), []int{0})
	x := image(t, m)
	for range api.MaxTicks {
		if l := step(t, m); len(l) != 1 {
			t.Fatalf("the tick %d: %v", m.Now()-1, l)
		}
	}
	w := m.Work()
	if w.Ticks != api.MaxTicks || w.Spikes != api.MaxTicks || w.Updates != api.MaxTicks {
		t.Errorf("Work: %+v", w)
	}
	for _, in := range [][]int{nil, {0}, {7}, {0, 0}} {
		if l, e := m.Step(in); e != api.ErrLong || len(l) > 0 || m.Now() != api.MaxTicks || m.Work() != w {
			t.Errorf("Step(%v) in the tick %d: %v, %d", in, m.Now(), l, e)
		}
	}
	x.Tick = api.MaxTicks - 1
	load(t, m, x)
	if l := step(t, m); len(l) != 1 || m.Now() != api.MaxTicks || m.Work().Ticks != api.MaxTicks+1 {
		t.Errorf("the last tick: %v, %+v", l, m.Work())
	}
	x.Tick = api.MaxTicks
	load(t, m, x)
	if _, e := m.Step(nil); e != api.ErrLong {
		t.Errorf("Step: %d", e)
	}
}

// P8.2: delays of all lengths, also the longest one, for which the row of the tick itself is the last one.
func TestP8_2Delays(t *testing.T) {
	n := api.Net{Neurons: neurons(16), Inputs: 1}
	var cores []int
	for i := range 16 {
		n.Synapses = append(n.Synapses, syn(-1, i, 5, i+1))
		cores = append(cores, i%3)
	}
	m := newMachine(t, n, wide(3, 1), cores)
	for tick := range 60 {
		var in, want []int
		if tick%20 == 3 {
			in = []int{0}
		}
		if i := tick - 4 - (tick-3)/20*20; tick > 3 && i >= 0 && i < 16 {
			want = []int{i}
		}
		if l := step(t, m, in...); !slices.Equal(l, want) {
			t.Errorf("the tick %d: %v, want %v", tick, l, want)
		}
	}
}

// P8.2: machines do what the definition of a machine says, tick by tick, and count their work as it says.
func TestP8_2Model(t *testing.T) {
	var g generator = 11
	spikes, merged, waves, moved := 0, 0, 0, 0
	for i := range 900 {
		n, c, cores := g.job([]int{10, 40, 300, api.MaxV}[i%4])
		inputs := g.events(n, 80, g.from(1, 10))
		m, want := newMachine(t, n, c, cores), newModel(t, n, c, cores)
		for now := range 80 {
			in := ids(inputs, now)
			if l, k := step(t, m, in...), want.step(in); !slices.Equal(l, k) || m.Work() != want.work || m.Now() != now+1 {
				t.Fatalf("%v on %v, %v, with %v: the tick %d: %v, %+v, want %v, %+v", n, c, cores, inputs, now, l, m.Work(), k, want.work)
			}
			if now%20 == 7 && !sameImage(image(t, m), want.image()) {
				t.Fatalf("%v on %v, %v: the image in the tick %d: %v, want %v", n, c, cores, now, image(t, m), want.image())
			}
		}
		spikes += want.work.Spikes
		if slices.Max(want.m.Waves) > 0 {
			waves++
		}
		if want.work.Hops > 0 {
			moved++
		}
		if slices.ContainsFunc(want.m.Tables, func(l []mesh.Entry) bool {
			return slices.ContainsFunc(l, func(x mesh.Entry) bool { return x.Mask != 65535 })
		}) {
			merged++
		}
	}
	if spikes < 20000 || waves < 100 || moved < 200 || merged < 20 {
		t.Errorf("%d spikes, %d jobs with several waves, %d with hops, %d with merged tables", spikes, waves, moved, merged)
	}
}

// P8.2: a work that can be counted by hand: five neurons of the core 0 send to the core 1 in three waves.
func TestP8_2Waves(t *testing.T) {
	n := api.Net{Neurons: append(always(5), neurons(1)...)}
	for i := range 5 {
		n.Synapses = append(n.Synapses, syn(i, 5, 1, 1))
	}
	m := newMachine(t, n, wide(2, 2), []int{0, 0, 0, 0, 0, 1})
	step(t, m)
	// Of two packets the second one waits for a tick, so the waves take 3, 3 and 2 ticks of the mesh.
	want := chip.Work{Ticks: 1, Updates: 6, Spikes: 5, Packets: 5, Hops: 5, Arrivals: 5, Rows: 5, Steps: 8, Most: 8}
	if m.Work() != want {
		t.Errorf("Work: %+v, want %+v", m.Work(), want)
	}
	step(t, m) // now the neuron 5 has a spike, too, which leads nowhere
	want = chip.Work{Ticks: 2, Updates: 12, Spikes: 11, Packets: 10, Hops: 10, Arrivals: 10, Rows: 10, Steps: 16, Most: 8}
	if m.Work() != want {
		t.Errorf("Work: %+v, want %+v", m.Work(), want)
	}
	// A synapse that is there twice is two rows, for one packet.
	n = api.Net{Neurons: neurons(2), Inputs: 2, Synapses: []api.Synapse{syn(-1, 0, 1, 1), syn(-1, 0, 1, 1), syn(-1, 1, 0, 2)}}
	m = newMachine(t, n, wide(3, 1), []int{1, 2})
	step(t, m, 0, 1)
	if w := m.Work(); w != (chip.Work{Ticks: 1, Updates: 2, Packets: 1, Hops: 2, Arrivals: 2, Rows: 3, Steps: 3, Most: 3}) {
		t.Errorf("Work: %+v", w)
	}
}

// P8.2: an input whose home is a dead core sends from its router.
func TestP8_2DeadHome(t *testing.T) {
	c := wide(2, 1)
	c.Dead = []int{0}
	m := newMachine(t, chain(), c, []int{1, 1})
	step(t, m, 0)
	if l := step(t, m); !slices.Equal(l, []int{0}) || m.Work().Hops != 1 {
		t.Errorf("Step: %v, %+v", l, m.Work())
	}
}

// P8.3: the example of the chapter, on both cores in either order; the image is new memory.
func TestP8_3Image(t *testing.T) {
	for _, cores := range [][]int{{0, 1}, {1, 0}} {
		m := newMachine(t, chain(), pair(), cores)
		step(t, m, 0)
		step(t, m)
		want := net.Image{Tick: 2, States: []api.State{{Rest: 1}, {}}}
		for range 16 {
			want.Due = append(want.Due, []int{0, 0})
		}
		want.Due[2][1] = 6
		for range 2 {
			x := image(t, m)
			if !sameImage(x, want) {
				t.Errorf("Image: %v, want %v", x, want)
			}
			x.States[0].V = 4
			for _, row := range x.Due {
				row[0], row[1] = 5, 5
			}
		}
	}
}

// P8.3: Load returns the errors of net.Resume, of which the one that is named first decides; then nothing has changed.
func TestP8_3Errors(t *testing.T) {
	m := newMachine(t, chain(), pair(), []int{1, 0})
	step(t, m, 0)
	step(t, m)
	now, w := image(t, m), m.Work()
	for name, x := range map[string]struct {
		change func(x *net.Image)
		want   api.Errno
	}{
		"a tick before all":       {func(x *net.Image) { x.Tick = -1 }, api.ErrRange},
		"a tick behind all":       {func(x *net.Image) { x.Tick, x.States = 10001, nil }, api.ErrRange},
		"the last tick":           {func(x *net.Image) { x.Tick = 10000 }, api.OK},
		"no states":               {func(x *net.Image) { x.States, x.Due[0][0] = nil, 1<<28+1 }, api.ErrShape},
		"a state too many":        {func(x *net.Image) { x.States = append(x.States, api.State{}) }, api.ErrShape},
		"no rows":                 {func(x *net.Image) { x.Due, x.States[0].V = nil, -9 }, api.ErrShape},
		"a row too many":          {func(x *net.Image) { x.Due = append(x.Due, []int{0, 0}) }, api.ErrShape},
		"a row that is too short": {func(x *net.Image) { x.Due[15] = []int{0} }, api.ErrShape},
		"a row that is too long":  {func(x *net.Image) { x.Due[0] = []int{0, 0, 0} }, api.ErrShape},
		"below the floor":         {func(x *net.Image) { x.States[1].V = -5 }, api.ErrRange},
		"the floor":               {func(x *net.Image) { x.States[1].V = -4 }, api.OK},
		"above all":               {func(x *net.Image) { x.States[0].V = api.MaxV + 1 }, api.ErrRange},
		"too long a rest":         {func(x *net.Image) { x.States[0].Rest = 2 }, api.ErrRange},
		"a sum that is too great": {func(x *net.Image) { x.Due[3][1] = 1<<28 + 1 }, api.ErrRange},
		"the greatest sum":        {func(x *net.Image) { x.Due[3][1] = 1 << 28 }, api.OK},
		"the least sum":           {func(x *net.Image) { x.Due[15][0] = -(1 << 28) }, api.OK},
		"a sum that is too small": {func(x *net.Image) { x.Due[15][0] = -(1 << 28) - 1 }, api.ErrRange},
	} {
		y := cloneImage(now)
		x.change(&y)
		_, f := net.Resume(chain(), y)
		if e := m.Load(y); e != x.want || f != x.want {
			t.Errorf("%s: %d, of net.Resume %d, want %d", name, e, f, x.want)
		}
		want := now
		if x.want == api.OK {
			want = y
		}
		if !sameImage(image(t, m), want) || m.Work() != w {
			t.Errorf("%s: the image %v, want %v", name, image(t, m), want)
		}
		load(t, m, now)
	}
}

// P8.3, R4: a machine that loads an image keeps its own work, and shares no memory with the image.
func TestP8_3Load(t *testing.T) {
	m, other := newMachine(t, chain(), pair(), []int{0, 1}), newMachine(t, chain(), pair(), []int{1, 0})
	step(t, m, 0)
	step(t, m)
	x := image(t, m)
	y := cloneImage(x)
	for range 3 {
		step(t, other, 0)
	}
	w := other.Work()
	load(t, other, x)
	if other.Now() != 2 || other.Work() != w || !sameImage(x, y) {
		t.Errorf("Load: the tick %d, the work %+v", other.Now(), other.Work())
	}
	x.States[0], x.Due[2][1], x.Due[0][1] = api.State{V: 3}, 0, 9
	if !sameImage(image(t, other), y) {
		t.Error("an image that is shared")
	}
	for _, want := range [][]int{nil, nil, {1}, nil} {
		if l := step(t, other); !slices.Equal(l, want) {
			t.Errorf("Step in the tick %d: %v, want %v", other.Now()-1, l, want)
		}
	}
	if v := other.Work(); v.Ticks != w.Ticks+4 || v.Spikes != w.Spikes+1 || v.Packets != w.Packets || v.Most != w.Most {
		t.Errorf("Work: %+v, before %+v", v, w)
	}
	if !sameImage(x, net.Image{Tick: 2, States: []api.State{{V: 3}, {}}, Due: x.Due}) {
		t.Error("the image was changed")
	}
}
