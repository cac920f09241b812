package place

import (
	"iter"

	"ganglion/api"
	"ganglion/mesh"
)

// Place returns an assignment.
func Place(n api.Net, c Chip) ([]int, api.Errno) {
	p, e := newPlanner(n, c)
	if e != api.OK {
		return nil, e
	}
	for neuron := range n.Neurons {
		joins := p.joins(neuron)
		core, ok := best(p.spaces(neuron), func(core int) int { return joins[core] })
		if !ok {
			return nil, api.ErrFull
		}
		p.put(core)
	}
	return p.cores, api.OK
}

// best returns the candidate with the greatest value, of several ones the first; or false if there are no candidates.
func best[T any](candidates iter.Seq[T], value func(T) int) (T, bool) {
	var found T
	most, ok := 0, false
	for x := range candidates {
		if v := value(x); !ok || v > most {
			found, most, ok = x, v, true
		}
	}
	return found, ok
}

// joins returns, for each core, how many synapses join the next neuron with neurons that are there.
func (p *planner) joins(neuron int) []int {
	l := make([]int, size(p.Chip))
	for _, s := range p.net.Synapses {
		other := -1
		switch neuron {
		case s.From:
			other = s.To
		case s.To:
			other = s.From
		}
		if among(other, 0, neuron-1) {
			l[p.cores[other]]++
		}
	}
	return l
}

// Improve returns an assignment that does not cost more.
func Improve(n api.Net, c Chip, cores []int, rounds int) ([]int, api.Errno) {
	p, e := assigned(n, c, cores)
	if e != api.OK {
		return nil, e
	}
	if !among(rounds, 0, maxRounds) {
		return nil, api.ErrRange
	}
	m := newImprover(p)
	// Behind a round that changes nothing, no other one does.
	for range rounds {
		if !m.round() {
			break
		}
	}
	return p.cores, api.OK
}

// improver moves the neurons that a planner has put.
type improver struct {
	*planner
	routes  [][]links // from each core to each core
	sources [][]int   // for each neuron, the other sources from which synapses lead to it
}

// newImprover returns an improver that has moved nothing yet.
func newImprover(p *planner) *improver {
	m := &improver{planner: p, sources: make([][]int, len(p.cores))}
	for from := range size(p.Chip) {
		var l []links
		for to := range size(p.Chip) {
			// There is no error: both cores exist.
			tree, _ := mesh.Tree(p.Mesh, from, []int{to})
			l = append(l, linksOf(tree))
		}
		m.routes = append(m.routes, l)
	}
	for source, targets := range p.targets {
		for _, neuron := range targets {
			if neuron != source {
				m.sources[neuron] = append(m.sources[neuron], source)
			}
		}
	}
	return m
}

// round tries each neuron on other cores, and reports whether one was moved.
func (m *improver) round() bool {
	moved := false
	for neuron, now := range m.cores {
		parts := m.parts(neuron)
		cost := func(core int) int { return m.costAt(neuron, core, parts) }
		core, ok := best(m.others(neuron), func(core int) int { return -cost(core) })
		if ok && cost(core) < cost(now) {
			m.move(neuron, core)
			moved = true
		}
	}
	return moved
}

// others yields the other cores than its own that have space for a neuron.
func (m *improver) others(neuron int) iter.Seq[int] {
	return func(yield func(int) bool) {
		for core := range m.spaces(neuron) {
			if core != m.cores[neuron] && !yield(core) {
				return
			}
		}
	}
}

// part is a tree that leads to a neuron, as far as it does not depend on the core of this neuron: the links to all other
// targets, and the ways from its home to each core.
type part struct {
	links links
	ways  []links
}

// parts returns the parts of the trees that lead from other sources to a neuron.
func (m *improver) parts(neuron int) []part {
	var l []part
	for _, source := range m.sources[neuron] {
		home := m.home(source)
		l = append(l, part{links: m.tree(source, home, neuron), ways: m.routes[home]})
	}
	return l
}

// tree returns the links of the tree of a source with this home, to all of its targets but one neuron.
func (m *improver) tree(source, home, but int) links {
	var l links
	for _, neuron := range m.targets[source] {
		if neuron != but {
			l = l.with(m.routes[home][m.cores[neuron]])
		}
	}
	return l
}

// costAt returns how many links are in the trees that begin or end at a neuron, if it is on a core; the other trees are
// the same wherever it is. To the neuron itself its own tree needs no links.
func (m *improver) costAt(neuron, core int, parts []part) int {
	sum := m.tree(neuron, core, neuron).count()
	for _, x := range parts {
		sum += x.links.with(x.ways[core]).count()
	}
	return sum
}
