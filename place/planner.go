package place

import (
	"iter"
	"slices"

	"ganglion/api"
	"ganglion/mesh"
	"ganglion/net"
)

// planner puts the neurons of a valid network, in their order, on the cores of a valid chip.
type planner struct {
	Chip
	net     api.Net
	targets [][]int // for each source, the neurons to which synapses lead from it, each of them once
	needs   []int   // for each neuron, how many synapses lead to it
	cores   []int   // for each neuron that was put, its core
	neurons []int   // for each core, how many neurons it has
	rows    []int   // for each core, how many synapses lead to its neurons
}

// newPlanner returns a planner that has put no neurons yet.
func newPlanner(n api.Net, c Chip) (*planner, api.Errno) {
	if e := net.Check(n); e != api.OK {
		return nil, e
	}
	if e := CheckChip(c); e != api.OK {
		return nil, e
	}
	if len(n.Neurons)+n.Inputs > MaxSources {
		return nil, api.ErrMany
	}
	p := &planner{
		Chip:    c,
		net:     n,
		targets: make([][]int, len(n.Neurons)+n.Inputs),
		needs:   make([]int, len(n.Neurons)),
		neurons: make([]int, size(c)),
		rows:    make([]int, size(c)),
	}
	for _, s := range n.Synapses {
		p.needs[s.To]++
		if from := p.source(s.From); !slices.Contains(p.targets[from], s.To) {
			p.targets[from] = append(p.targets[from], s.To)
		}
	}
	return p, api.OK
}

// assigned returns a planner that has put all neurons on these cores.
func assigned(n api.Net, c Chip, cores []int) (*planner, api.Errno) {
	p, e := newPlanner(n, c)
	if e != api.OK {
		return nil, e
	}
	if len(cores) != len(n.Neurons) {
		return nil, api.ErrShape
	}
	for _, core := range cores {
		if !exists(c, core) {
			return nil, api.ErrRange
		}
		if p.isDead(core) {
			return nil, api.ErrDown
		}
	}
	for neuron, core := range cores {
		if !p.hasSpace(neuron, core) {
			return nil, api.ErrFull
		}
		p.put(core)
	}
	return p, api.OK
}

// source returns the number of the source from which a synapse leads.
func (p *planner) source(from int) int {
	if from < 0 {
		return len(p.net.Neurons) - 1 - from
	}
	return from
}

// isNeuron reports whether a source is a neuron.
func (p *planner) isNeuron(source int) bool { return source < len(p.net.Neurons) }

// home returns the core of a neuron, or the router 0 for an input.
func (p *planner) home(source int) int {
	if p.isNeuron(source) {
		return p.cores[source]
	}
	return 0
}

// isDead reports whether a core does not work.
func (p *planner) isDead(core int) bool { return slices.Contains(p.Dead, core) }

// hasSpace reports whether a core has space for a neuron that is not there.
func (p *planner) hasSpace(neuron, core int) bool {
	return !p.isDead(core) && p.neurons[core] < p.Neurons && p.rows[core]+p.needs[neuron] <= p.Synapses
}

// spaces yields the cores that have space for a neuron.
func (p *planner) spaces(neuron int) iter.Seq[int] {
	return func(yield func(int) bool) {
		for core := range size(p.Chip) {
			if p.hasSpace(neuron, core) && !yield(core) {
				return
			}
		}
	}
}

// put puts the next neuron on a core.
func (p *planner) put(core int) {
	p.count(len(p.cores), core, 1)
	p.cores = append(p.cores, core)
}

// move moves a neuron that was put to another core.
func (p *planner) move(neuron, core int) {
	p.count(neuron, p.cores[neuron], -1)
	p.count(neuron, core, 1)
	p.cores[neuron] = core
}

// count counts a neuron and its rows on a core once more, or once less.
func (p *planner) count(neuron, core, times int) {
	p.neurons[core] += times
	p.rows[core] += times * p.needs[neuron]
}

// ways yields the way of each source with synapses; its key is the source.
func (p *planner) ways() iter.Seq[mesh.Way] {
	return func(yield func(mesh.Way) bool) {
		for source, targets := range p.targets {
			if len(targets) == 0 {
				continue
			}
			w := mesh.Way{Key: source, Source: p.home(source)}
			for _, neuron := range targets {
				w.Targets = append(w.Targets, p.cores[neuron])
			}
			if !yield(w) {
				return
			}
		}
	}
}

// trees yields the way of each source with synapses, and the outputs of all routers in its tree.
func (p *planner) trees() iter.Seq2[mesh.Way, []int] {
	return func(yield func(mesh.Way, []int) bool) {
		for w := range p.ways() {
			// There is no error: all routers of a way exist, and it has a target.
			tree, _ := mesh.Tree(p.Mesh, w.Source, w.Targets)
			if !yield(w, tree) {
				return
			}
		}
	}
}

// cost returns how many links are in the trees of all sources.
func (p *planner) cost() int {
	sum := 0
	for _, tree := range p.trees() {
		sum += linksOf(tree).count()
	}
	return sum
}

// low returns the bound of the cost: a tree that leads to k cores has at least k - 1 links.
func (p *planner) low() int {
	sum := 0
	for source, targets := range p.targets {
		if len(targets) == 0 {
			continue
		}
		neurons := len(targets)
		if p.isNeuron(source) && !slices.Contains(targets, source) {
			neurons++
		}
		sum += (neurons+p.Neurons-1)/p.Neurons - 1
	}
	return sum
}
