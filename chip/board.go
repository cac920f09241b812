package chip

import (
	"iter"
	"math/bits"
	"slices"

	"ganglion/api"
	"ganglion/mesh"
	"ganglion/net"
	"ganglion/place"
)

// board is a mapped network on its cores.
type board struct {
	mesh    mesh.Spec
	mapping place.Mapping
	cores   map[int]*core // those that have neurons, by their numbers
	waves   [][]int       // the sources of each wave, in the order of their keys
	links   []int         // for each source, how many links are in its tree
}

// newBoard returns a board with all neurons in the state at first, and nothing due. It keeps the mapping.
func newBoard(s mesh.Spec, m place.Mapping) board {
	b := board{mesh: s, mapping: m, cores: map[int]*core{}, waves: wavesOf(m.Waves)}
	for i, number := range m.Cores {
		c := b.cores[number]
		if c == nil {
			c = &core{rows: byKey(m.Rows[number])}
			b.cores[number] = c
		}
		// Slots are in the order of the neurons, so this one gets its own.
		c.cells = append(c.cells, cell{number: i, params: m.Quant.Net.Neurons[i], scale: m.Quant.Scales[i]})
	}
	for _, c := range b.cores {
		c.due = newRing(len(c.cells))
	}
	b.links = b.linksOf()
	return b
}

// wavesOf returns the sources of each wave.
func wavesOf(waves []int) [][]int {
	l := make([][]int, slices.Max(waves)+1)
	for source, wave := range waves {
		if wave >= 0 {
			l[wave] = append(l[wave], source)
		}
	}
	return l
}

// byKey returns the rows of each key.
func byKey(rows []place.Row) map[int][]place.Row {
	l := map[int][]place.Row{}
	for _, r := range rows {
		l[r.Key] = append(l[r.Key], r)
	}
	return l
}

// linksOf returns how many links are in the tree of each source. As nothing is dropped, a packet takes all of them.
func (b *board) linksOf() []int {
	targets := make([][]int, len(b.mapping.Waves))
	for number, rows := range b.mapping.Rows {
		for _, r := range rows {
			targets[r.Key] = append(targets[r.Key], number)
		}
	}
	links := make([]int, len(targets))
	for source, l := range targets {
		// For a source without synapses there is no tree, and an error.
		tree, _ := mesh.Tree(b.mesh, b.home(source), l)
		for _, outs := range tree {
			links[source] += bits.OnesCount(uint(outs &^ mesh.Local))
		}
	}
	return links
}

// home returns the core of a neuron, or the router 0 for an input.
func (b *board) home(source int) int {
	if source < len(b.mapping.Cores) {
		return b.mapping.Cores[source]
	}
	return 0
}

// update lets all neurons do a tick, and returns those that have a spike, ascending.
func (b *board) update(now int) []int {
	var spikes []int
	for _, c := range b.cores {
		spikes = append(spikes, c.tick(now)...)
	}
	// The cores come in any order, and do not know of each other.
	slices.Sort(spikes)
	return spikes
}

// senders returns a function that says whether a source sends, if these neurons have a spike, and these inputs an event.
func (b *board) senders(spikes, inputs []int) func(source int) bool {
	neurons := len(b.mapping.Cores)
	sending := make([]bool, len(b.mapping.Waves))
	for _, i := range spikes {
		sending[i] = true
	}
	for _, i := range inputs {
		sending[neurons+i] = true
	}
	return func(source int) bool { return sending[source] }
}

// packets yields the packets of each wave in which sources send, wave by wave.
func (b *board) packets(sends func(source int) bool) iter.Seq[[]mesh.Packet] {
	return func(yield func([]mesh.Packet) bool) {
		for _, sources := range b.waves {
			var l []mesh.Packet
			for _, source := range sources {
				if sends(source) {
					l = append(l, mesh.Packet{Source: b.home(source), Key: source})
				}
			}
			if len(l) > 0 && !yield(l) {
				return
			}
		}
	}
}

// image returns the image of the network before a tick.
func (b *board) image(now int) net.Image {
	x := net.Image{Tick: now, Due: make([][]int, api.MaxDelay)}
	for i, number := range b.mapping.Cores {
		c, slot := b.cores[number], b.mapping.Slots[i]
		x.States = append(x.States, c.cells[slot].state)
		for d := range x.Due {
			x.Due[d] = append(x.Due[d], c.due.row(now + d)[slot])
		}
	}
	return x
}

// load takes the states, and what is due, from an image that is known to be valid.
func (b *board) load(x net.Image) {
	for i, number := range b.mapping.Cores {
		c, slot := b.cores[number], b.mapping.Slots[i]
		c.cells[slot].state = x.States[i]
		for d, row := range x.Due {
			c.due.row(x.Tick + d)[slot] = row[i]
		}
	}
}

// cloneMapping returns a mapping that shares no memory with m.
func cloneMapping(m place.Mapping) place.Mapping {
	q := m.Quant
	return place.Mapping{
		Cores: slices.Clone(m.Cores),
		Slots: slices.Clone(m.Slots),
		Quant: place.Quant{
			Net:    api.Net{Neurons: slices.Clone(q.Net.Neurons), Inputs: q.Net.Inputs, Synapses: slices.Clone(q.Net.Synapses)},
			Scales: slices.Clone(q.Scales),
			Quots:  slices.Clone(q.Quots),
			Errors: slices.Clone(q.Errors),
			Exact:  q.Exact,
		},
		Rows:   cloneLists(m.Rows),
		Tables: cloneLists(m.Tables),
		Waves:  slices.Clone(m.Waves),
		Cost:   m.Cost,
		Load:   m.Load,
		Steps:  m.Steps,
	}
}

// cloneLists returns lists that share no memory with these.
func cloneLists[T any](lists [][]T) [][]T {
	var out [][]T
	for _, l := range lists {
		out = append(out, slices.Clone(l))
	}
	return out
}
