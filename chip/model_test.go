package chip_test

import (
	"slices"
	"testing"

	"ganglion/api"
	"ganglion/chip"
	"ganglion/mesh"
	"ganglion/net"
	"ganglion/neuron"
	"ganglion/place"
)

// generator is the generator of the document, so that every run of the tests has the same cases.
type generator uint64

func (g *generator) below(n int) int {
	*g = *g*6364136223846793005 + 1442695040888963407
	return int(uint64(*g) >> 33 % uint64(n))
}

func (g *generator) from(least, most int) int { return least + g.below(most-least+1) }

func (g *generator) one(l ...int) int { return l[g.below(len(l))] }

// params draws a valid neuron whose numbers are at most about size, half of the time without a bias.
func (g *generator) params(size int) api.Params {
	p := api.Params{LeakKind: g.below(3), ResetKind: g.below(2), Thresh: g.from(1, size), Floor: g.from(-size, 0), Rest: g.below(4)}
	switch p.LeakKind {
	case api.LeakLine:
		p.Leak = g.from(1, max(size/8, 1))
	case api.LeakShare:
		p.Leak = g.from(1, 256)
	}
	if g.below(2) == 0 {
		p.Bias = g.from(-size/8, size/4)
	}
	if p.ResetKind == api.ResetTo {
		p.Reset = g.from(p.Floor, p.Thresh-1)
	}
	return p
}

// network draws a valid network whose numbers are at most about size.
func (g *generator) network(size int) api.Net {
	n := api.Net{Inputs: g.below(4)}
	for range g.from(1, 12) {
		n.Neurons = append(n.Neurons, g.params(size))
	}
	most := min(size, api.MaxWeight)
	for range g.below(40) {
		n.Synapses = append(n.Synapses, syn(g.from(-n.Inputs, len(n.Neurons)-1), g.below(len(n.Neurons)), g.from(-most/2, most), g.from(1, api.MaxDelay)))
	}
	return n
}

// chip draws a valid chip.
func (g *generator) chip() place.Chip {
	c := place.Chip{
		Mesh:     mesh.Spec{Wide: g.from(1, 4), High: g.from(1, 4), Room: g.one(1, 1, 2, 3, 64)},
		Neurons:  g.one(1, 2, 3, 5, 64),
		Synapses: g.one(8, 20, 4096),
		Entries:  g.one(3, 6, 12, 1024),
		Bits:     g.one(2, 3, 4, 6, 10, 16),
	}
	for core := range c.Mesh.Wide * c.Mesh.High {
		if g.below(8) == 0 {
			c.Dead = append(c.Dead, core)
		}
	}
	return c
}

// job draws a network, a chip and an assignment that can be mapped.
func (g *generator) job(size int) (api.Net, place.Chip, []int) {
	for {
		n, c := g.network(size), g.chip()
		var cores []int
		for range n.Neurons {
			cores = append(cores, g.below(c.Mesh.Wide*c.Mesh.High))
		}
		if g.below(4) == 0 {
			cores, _ = place.Place(n, c)
		}
		if _, e := place.Map(n, c, cores); e == api.OK {
			return n, c, cores
		}
	}
}

// events draws events at the inputs of a network, at each of them in about one of so many ticks.
func (g *generator) events(n api.Net, ticks, seldom int) []api.Event {
	var l []api.Event
	for t := range ticks {
		for i := range n.Inputs {
			if g.below(seldom) == 0 {
				l = append(l, api.Event{Tick: t, Id: i})
			}
		}
	}
	return l
}

// ids are the Ids of the events in a tick.
func ids(l []api.Event, tick int) []int {
	var out []int
	for _, x := range l {
		if x.Tick == tick {
			out = append(out, x.Id)
		}
	}
	return out
}

// moment is a tick and a neuron.
type moment struct{ tick, neuron int }

// model is a machine that does what the chapter says word by word, with what is due in a map without an end.
type model struct {
	t      *testing.T
	n      api.Net
	c      place.Chip
	m      place.Mapping
	now    int
	states []api.State
	due    map[moment]int
	work   chip.Work
}

func newModel(t *testing.T, n api.Net, c place.Chip, cores []int) *model {
	t.Helper()
	m, e := place.Map(n, c, cores)
	if e != api.OK {
		t.Fatalf("Map(%v, %v, %v): the error %d", n, c, cores, e)
	}
	return &model{t: t, n: n, c: c, m: m, states: make([]api.State, len(n.Neurons)), due: map[moment]int{}}
}

func (x *model) home(source int) int {
	if source < len(x.n.Neurons) {
		return x.m.Cores[source]
	}
	return 0
}

// links is how many links are on the routes from the home of a source to the cores to which its synapses lead.
func (x *model) links(source int) int {
	type link struct{ from, to int }
	seen := map[link]bool{}
	for _, s := range x.n.Synapses {
		if s.From != source && (s.From >= 0 || len(x.n.Neurons)-1-s.From != source) {
			continue
		}
		l, e := mesh.Route(x.c.Mesh, x.home(source), x.m.Cores[s.To])
		if e != api.OK {
			x.t.Fatalf("Route: the error %d", e)
		}
		for i := 1; i < len(l); i++ {
			seen[link{l[i-1], l[i]}] = true
		}
	}
	return len(seen)
}

// at is the neuron with a slot of a core.
func (x *model) at(core, slot int) int {
	for i := range x.m.Cores {
		if x.m.Cores[i] == core && x.m.Slots[i] == slot {
			return i
		}
	}
	x.t.Fatalf("the core %d has no slot %d", core, slot)
	return 0
}

func (x *model) step(inputs []int) []int {
	x.t.Helper()
	var spikes []int
	for i, p := range x.n.Neurons {
		after, spike, e := neuron.Tick(p, x.states[i], x.due[moment{x.now, i}])
		if e != api.OK {
			x.t.Fatalf("Tick: the error %d", e)
		}
		x.states[i] = after
		if spike {
			spikes = append(spikes, i)
		}
	}
	steps := 0
	for wave := range slices.Max(x.m.Waves) + 1 {
		var l []mesh.Packet
		for source, w := range x.m.Waves {
			input := source - len(x.n.Neurons)
			if w == wave && (slices.Contains(spikes, source) || input >= 0 && slices.Contains(inputs, input)) {
				l = append(l, mesh.Packet{Source: x.home(source), Key: source})
			}
		}
		steps += x.send(l)
	}
	x.work.Ticks++
	x.work.Updates += len(x.n.Neurons)
	x.work.Spikes += len(spikes)
	x.work.Steps += steps
	x.work.Most = max(x.work.Most, steps)
	x.now++
	return spikes
}

// send sends the packets of a wave, and returns the number of ticks until the last copy has arrived.
func (x *model) send(l []mesh.Packet) int {
	x.t.Helper()
	r, e := mesh.Run(x.c.Mesh, x.m.Tables, l, api.MaxTicks)
	if e != api.OK || len(r.Drops) > 0 || r.Rest > 0 {
		x.t.Fatalf("Run(%v): the drops %v, %d copies are left, the error %d", l, r.Drops, r.Rest, e)
	}
	x.work.Packets += len(l)
	for _, p := range l {
		x.work.Hops += x.links(p.Key)
	}
	steps := 0
	for _, a := range r.Arrivals {
		x.work.Arrivals++
		steps = max(steps, a.Tick+1)
		for _, row := range x.m.Rows[a.Core] {
			if row.Key == l[a.Packet].Key {
				x.work.Rows++
				i := x.at(a.Core, row.Slot)
				x.due[moment{x.now + row.Delay, i}] += row.Weight * x.m.Quant.Scales[i]
			}
		}
	}
	return steps
}

func (x *model) image() net.Image {
	y := net.Image{Tick: x.now, States: slices.Clone(x.states)}
	for d := range api.MaxDelay {
		var row []int
		for i := range x.n.Neurons {
			row = append(row, x.due[moment{x.now + d, i}])
		}
		y.Due = append(y.Due, row)
	}
	return y
}

// load takes an image, and forgets everything else but the work.
func (x *model) load(y net.Image) {
	x.now, x.states, x.due = y.Tick, slices.Clone(y.States), map[moment]int{}
	for d, row := range y.Due {
		for i, sum := range row {
			x.due[moment{y.Tick + d, i}] = sum
		}
	}
}
