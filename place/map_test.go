package place_test

import (
	"cmp"
	"slices"
	"testing"

	"ganglion/api"
	"ganglion/mesh"
	"ganglion/place"
)

// mapped is Map for arguments that are known to be valid.
func mapped(t *testing.T, n api.Net, c place.Chip, cores []int) place.Mapping {
	t.Helper()
	m, e := place.Map(n, c, cores)
	if e != api.OK {
		t.Fatalf("Map(%v, %v, %v): the error %d", n, c, cores, e)
	}
	return m
}

// plan draws a network, a chip and an assignment that can be mapped.
func (g *generator) plan(most, synapses, side int) (api.Net, place.Chip, []int, place.Mapping) {
	for {
		n, c, cores := g.planned(most, synapses, side)
		if m, e := place.Map(n, c, cores); e == api.OK {
			return n, c, cores, m
		}
	}
}

// fan is a network in which five neurons of the core 0 send to the core 1.
func fan() (api.Net, place.Chip, []int) {
	n := api.Net{Neurons: neurons(6)}
	for i := range 5 {
		n.Synapses = append(n.Synapses, syn(i, 5, 10, 1))
	}
	c := place.Chip{Mesh: mesh.Spec{Wide: 2, High: 1, Room: 2}, Neurons: 5, Synapses: 5, Entries: 5, Bits: 8}
	return n, c, []int{0, 0, 0, 0, 0, 1}
}

// P7.5: the example of the chapter.
func TestP7_5Example(t *testing.T) {
	m := mapped(t, chain(), small(), []int{0, 1})
	q := quantise(t, chain(), 3)
	want := place.Mapping{
		Cores:  []int{0, 1},
		Slots:  []int{0, 0},
		Quant:  q,
		Rows:   [][]place.Row{{{Key: 2, Slot: 0, Weight: 3, Delay: 1}}, {{Key: 0, Slot: 0, Weight: 3, Delay: 3}}},
		Tables: [][]mesh.Entry{{{Key: 0, Mask: 65535, Outs: 1}, {Key: 2, Mask: 65535, Outs: 16}}, {{Key: 0, Mask: 65535, Outs: 16}}},
		Waves:  []int{0, -1, 0},
		Cost:   1,
		Load:   1,
		Steps:  2,
	}
	if !sameMapping(m, want) {
		t.Errorf("Map: %v, want %v", m, want)
	}
}

// P7.5: tables are merged only if they are too long, and can be too long still.
func TestP7_5Entries(t *testing.T) {
	if m, e := place.Map(chain(), place.Chip{Mesh: small().Mesh, Neurons: 1, Synapses: 4, Entries: 1, Bits: 3}, []int{0, 1}); e != api.ErrFull || !sameMapping(m, place.Mapping{}) {
		t.Errorf("Map of the example with one entry: %v, %d", m, e)
	}
	n, c, cores := fan()
	whole := func(outs int) []mesh.Entry {
		var l []mesh.Entry
		for key := range 5 {
			l = append(l, mesh.Entry{Key: key, Mask: 65535, Outs: outs})
		}
		return l
	}
	merged := func(outs int) []mesh.Entry {
		return []mesh.Entry{{Key: 0, Mask: 65532, Outs: outs}, {Key: 4, Mask: 65535, Outs: outs}}
	}
	for entries, want := range map[int]func(int) []mesh.Entry{5: whole, 6: whole, 4: merged, 3: merged, 2: merged} {
		c.Entries = entries
		if m := mapped(t, n, c, cores); !slices.Equal(m.Tables[0], want(1)) || !slices.Equal(m.Tables[1], want(16)) {
			t.Errorf("%d entries: %v", entries, m.Tables)
		}
	}
	c.Entries = 1
	if _, e := place.Map(n, c, cores); e != api.ErrFull {
		t.Errorf("one entry: the error %d", e)
	}
	// Only the table of the router 1 is too long.
	n = api.Net{Neurons: neurons(4), Inputs: 2, Synapses: []api.Synapse{syn(0, 3, 1, 1), syn(1, 2, 1, 1), syn(2, 3, 1, 1)}}
	c.Entries, c.Neurons = 2, 3
	m := mapped(t, n, c, []int{0, 1, 1, 1})
	if !slices.Equal(m.Tables[0], []mesh.Entry{{Key: 0, Mask: 65535, Outs: 1}}) || !slices.Equal(m.Tables[1], []mesh.Entry{{Key: 0, Mask: 65534, Outs: 16}, {Key: 2, Mask: 65535, Outs: 16}}) {
		t.Errorf("a table that is merged beside one that is not: %v", m.Tables)
	}
}

// P7.5: the waves, the load and the steps of sources that use the same outputs.
func TestP7_5Waves(t *testing.T) {
	n, c, cores := fan()
	for room, want := range map[int]struct {
		waves []int
		steps int
	}{
		1:  {[]int{0, 1, 2, 3, 4, -1}, 10},
		2:  {[]int{0, 0, 1, 1, 2, -1}, 4 + 4 + 2},
		4:  {[]int{0, 0, 0, 0, 1, -1}, 8 + 2},
		64: {[]int{0, 0, 0, 0, 0, -1}, 10},
	} {
		c.Mesh.Room = room
		if m := mapped(t, n, c, cores); !slices.Equal(m.Waves, want.waves) || m.Steps != want.steps || m.Load != 5 || m.Cost != 5 {
			t.Errorf("Room %d: the waves %v, the steps %d, the load %d, the cost %d", room, m.Waves, m.Steps, m.Load, m.Cost)
		}
	}
	// The sources 0 and 1 both go from 0 to the east, the source 2 uses outputs of both, and the source 3 of none.
	c = place.Chip{Mesh: mesh.Spec{Wide: 3, High: 1, Room: 1}, Neurons: 2, Synapses: 5, Entries: 5, Bits: 8}
	n = api.Net{Neurons: neurons(5), Synapses: []api.Synapse{syn(0, 2, 1, 1), syn(1, 4, 1, 1), syn(2, 4, 1, 1), syn(2, 3, 1, 1), syn(3, 1, 1, 1)}}
	m := mapped(t, n, c, []int{0, 0, 1, 1, 2})
	if !slices.Equal(m.Waves, []int{0, 1, 2, 0, -1}) || m.Load != 2 || m.Cost != 1+2+1+1 || m.Steps != 2+3+2 {
		t.Errorf("Map: the waves %v, the load %d, the cost %d, the steps %d", m.Waves, m.Load, m.Cost, m.Steps)
	}
	// Nothing is sent at all.
	if m := mapped(t, api.Net{Neurons: neurons(1), Inputs: 2}, c, []int{2}); !slices.Equal(m.Waves, []int{-1, -1, -1}) || m.Load != 0 || m.Steps != 0 || m.Cost != 0 || len(m.Rows) != 3 || len(m.Tables) != 3 {
		t.Errorf("Map without synapses: %v", m)
	}
}

// P7.5: a dead core can be the home of inputs, as its router works.
func TestP7_5DeadHome(t *testing.T) {
	c := with(small(), 2, 4, 0)
	m := mapped(t, chain(), c, []int{1, 1})
	if m.Cost != 1 || !slices.Equal(m.Slots, []int{0, 1}) || !slices.Equal(m.Tables[0], []mesh.Entry{{Key: 2, Mask: 65535, Outs: 1}}) || len(m.Rows[0]) > 0 {
		t.Errorf("Map: %v", m)
	}
}

// P7.5, R4: a mapping is new memory in all of its parts.
func TestP7_5NewMemory(t *testing.T) {
	n, c, cores := fan()
	before, given := cloneNet(n), slices.Clone(cores)
	m := mapped(t, n, c, cores)
	clear(m.Cores)
	clear(m.Quant.Net.Neurons)
	clear(m.Quant.Net.Synapses)
	clear(m.Quant.Quots)
	clear(m.Quant.Scales)
	for i := range m.Rows {
		clear(m.Rows[i])
	}
	clear(m.Tables[0])
	if !sameNet(n, before) || !slices.Equal(cores, given) || m.Tables[1][4].Key != 4 || m.Slots[4] != 4 || m.Waves[5] != -1 {
		t.Errorf("the mapping %v shares memory", m)
	}
}

// P7.5: mappings are as the definition says.
func TestP7_5Model(t *testing.T) {
	var g generator = 109
	full, shorter, waves := 0, 0, 0
	for range 4000 {
		n, c, cores := g.planned(10, 24, 4)
		want, ok := mapModel(n, c, cores)
		m, e := place.Map(n, c, cores)
		if ok != (e == api.OK) || !ok && e != api.ErrFull || !sameMapping(m, want) {
			t.Fatalf("Map(%v, %v, %v): %v, %d, want %v", n, c, cores, m, e, want)
		}
		if !ok {
			full++
			continue
		}
		if slices.Max(m.Waves) > 1 {
			waves++
		}
		if slices.ContainsFunc(m.Tables, func(l []mesh.Entry) bool {
			return slices.ContainsFunc(l, func(x mesh.Entry) bool { return x.Mask != 65535 })
		}) {
			shorter++
		}
	}
	if full < 400 || shorter < 200 || waves < 400 {
		t.Errorf("%d tables had no space, %d were merged, %d had several waves", full, shorter, waves)
	}
}

// P7.8: the keys lead from the homes to the cores, to each once, and the rows of a core are those of its neurons.
func TestP7_8Ways(t *testing.T) {
	var g generator = 113
	for range 2000 {
		n, c, cores, m := g.plan(12, 30, 5)
		for source := range len(n.Neurons) + n.Inputs {
			targets := targetsModel(n, cores, source)
			if len(targets) == 0 {
				continue
			}
			slices.Sort(targets)
			l := reached(t, c, m.Tables, homeModel(n, cores, source), source)
			if slices.Sort(l); !slices.Equal(l, slices.Compact(targets)) {
				t.Fatalf("Map(%v, %v, %v): the key %d leads to %v, want %v", n, c, cores, source, l, targets)
			}
		}
		checkRows(t, n, cores, m)
	}
}

// reached returns the cores to which a key leads over tables from a router, each as often as it does.
func reached(t *testing.T, c place.Chip, tables [][]mesh.Entry, from, key int) []int {
	t.Helper()
	var l []int
	ways := map[int]int{mesh.East: 1, mesh.North: c.Mesh.Wide, mesh.West: -1, mesh.South: -c.Mesh.Wide}
	at := []int{from}
	for steps := 0; len(at) > 0; steps++ {
		if steps > 1000 {
			t.Fatalf("the key %d goes in circles: %v", key, tables)
		}
		router := at[0]
		at = at[1:]
		outs, ok := mesh.Find(tables[router], key)
		if !ok {
			t.Fatalf("the router %d has no entry for the key %d: %v", router, key, tables)
		}
		if outs&mesh.Local != 0 {
			l = append(l, router)
		}
		for out, by := range ways {
			if outs&out != 0 {
				at = append(at, router+by)
			}
		}
	}
	return l
}

// checkRows checks that the rows of the cores have just the synapses of the quantised network.
func checkRows(t *testing.T, n api.Net, cores []int, m place.Mapping) {
	t.Helper()
	var a, b []api.Synapse
	for i, s := range m.Quant.Net.Synapses {
		s.Weight = m.Quant.Quots[i]
		a = append(a, s)
	}
	for core, rows := range m.Rows {
		for _, r := range rows {
			neuron := slices.IndexFunc(cores, func(x int) bool { return x == core })
			for slot := r.Slot; slot > 0; slot-- {
				neuron += 1 + slices.Index(cores[neuron+1:], core)
			}
			from := r.Key
			if from >= len(n.Neurons) {
				from = -1 - (r.Key - len(n.Neurons))
			}
			b = append(b, syn(from, neuron, r.Weight, r.Delay))
		}
	}
	order := func(x, y api.Synapse) int {
		return cmp.Or(cmp.Compare(x.From, y.From), cmp.Compare(x.To, y.To), cmp.Compare(x.Weight, y.Weight), cmp.Compare(x.Delay, y.Delay))
	}
	slices.SortFunc(a, order)
	slices.SortFunc(b, order)
	if !slices.Equal(a, b) {
		t.Fatalf("the rows %v are those of %v, want %v", m.Rows, b, a)
	}
}

// G4: no core, table or link holds more than it can.
func TestP7_8Space(t *testing.T) {
	var g generator = 127
	for range 2000 {
		n, c, cores, m := g.plan(12, 30, 5)
		half := 1 << (c.Bits - 1)
		for core, rows := range m.Rows {
			on := 0
			for _, x := range cores {
				if x == core {
					on++
				}
			}
			if len(rows) > c.Synapses || len(m.Tables[core]) > c.Entries || on > c.Neurons || slices.Contains(c.Dead, core) && on > 0 {
				t.Fatalf("Map(%v, %v, %v): the core %d has too much: %v", n, c, cores, core, m)
			}
			for _, r := range rows {
				if !among(r.Weight, -half, half-1) || !among(r.Slot, 0, on-1) {
					t.Fatalf("Map(%v, %v, %v): the row %v of the core %d", n, c, cores, r, core)
				}
			}
		}
	}
}

// P7.9: all or some sources of a wave send in the same tick; nothing is dropped, and all arrive in time.
func TestP7_9NoDrops(t *testing.T) {
	var g generator = 131
	last, close := 0, 0
	for range 1500 {
		n, c, cores, m := g.plan(14, 40, 5)
		steps := 0
		for wave := range slices.Max(m.Waves) + 1 {
			sources := ofWave(m.Waves, wave)
			time := (farModel(n, c, cores, sources) + 1) * loadModel(n, c, cores, sources)
			steps += time
			for range 3 {
				tick := g.below(10)
				some, late := g.someOf(sources), 0
				r, e := mesh.Run(c.Mesh, m.Tables, g.packets(n, cores, some, tick), tick+time)
				if e != api.OK || len(r.Drops) > 0 || r.Rest > 0 {
					t.Fatalf("Map(%v, %v, %v): the wave %v: %v, %d", n, c, cores, some, r, e)
				}
				want := 0
				for _, source := range some {
					targets := targetsModel(n, cores, source)
					slices.Sort(targets)
					want += len(slices.Compact(targets))
				}
				for _, a := range r.Arrivals {
					late = max(late, a.Tick-tick+1)
				}
				if len(r.Arrivals) != want {
					t.Fatalf("Map(%v, %v, %v): the wave %v arrives at %v", n, c, cores, some, r.Arrivals)
				}
				last = max(last, late)
				if late == time {
					close++
				}
			}
		}
		if steps != m.Steps {
			t.Fatalf("Map(%v, %v, %v): %d steps, want %d", n, c, cores, m.Steps, steps)
		}
	}
	if last < 8 || close < 100 {
		t.Errorf("the last packet came after %d ticks, %d waves needed all of their ticks", last, close)
	}
}

// someOf draws some of the sources of a wave, or all.
func (g *generator) someOf(l []int) []int {
	if g.below(2) == 0 {
		return l
	}
	return slices.DeleteFunc(slices.Clone(l), func(int) bool { return g.below(3) == 0 })
}

// packets are those of some sources, in any order, of either class.
func (g *generator) packets(n api.Net, cores, sources []int, tick int) []mesh.Packet {
	var l []mesh.Packet
	class := g.below(3)
	for _, source := range sources {
		p := mesh.Packet{Tick: tick, Source: homeModel(n, cores, source), Key: source, Class: class}
		if class == 2 {
			p.Class = g.below(2)
		}
		l = slices.Insert(l, g.below(len(l)+1), p)
	}
	return l
}
