package place

import (
	"iter"
	"slices"

	"ganglion/api"
	"ganglion/mesh"
)

// Map returns the mapping of an assignment.
func Map(n api.Net, c Chip, cores []int) (Mapping, api.Errno) {
	p, e := assigned(n, c, cores)
	if e != api.OK {
		return Mapping{}, e
	}
	tables, e := p.tables()
	if e != api.OK {
		return Mapping{}, e
	}
	q, e := Quantise(n, c.Bits)
	if e != api.OK {
		return Mapping{}, e
	}
	slots := p.slots()
	m := Mapping{Cores: p.cores, Slots: slots, Quant: q, Rows: p.rowsOf(slots, q.Quots), Tables: tables, Cost: p.cost()}
	p.send(&m)
	return m, api.OK
}

// slots returns the slot of each neuron.
func (p *planner) slots() []int {
	var l []int
	used := make([]int, size(p.Chip))
	for _, core := range p.cores {
		l = append(l, used[core])
		used[core]++
	}
	return l
}

// rowsOf returns the rows of each core.
func (p *planner) rowsOf(slots, quots []int) [][]Row {
	rows := make([][]Row, size(p.Chip))
	for i, s := range p.net.Synapses {
		core := p.cores[s.To]
		rows[core] = append(rows[core], Row{Key: p.source(s.From), Slot: slots[s.To], Weight: quots[i], Delay: s.Delay})
	}
	return rows
}

// tables returns the tables of all routers, of which those that are too long are merged.
func (p *planner) tables() ([][]mesh.Entry, api.Errno) {
	tables, e := mesh.Tables(p.Mesh, slices.Collect(p.ways()))
	if e != api.OK {
		return nil, e
	}
	for i, l := range tables {
		if len(l) <= p.Entries {
			continue
		}
		merged, e := mesh.Merge(l, keysOf(l))
		if e != api.OK {
			return nil, e
		}
		if len(merged) > p.Entries {
			return nil, api.ErrFull
		}
		tables[i] = merged
	}
	return tables, api.OK
}

// keysOf returns the keys of a table.
func keysOf(l []mesh.Entry) []int {
	var keys []int
	for _, x := range l {
		keys = append(keys, x.Key)
	}
	return keys
}

// send gives each source its wave, and writes the waves, the load and the steps into a mapping.
func (p *planner) send(m *Mapping) {
	m.Waves = slices.Repeat([]int{-1}, len(p.targets))
	all := loads{}
	var waves []*wave
	for w, tree := range p.trees() {
		all.add(tree)
		i := slices.IndexFunc(waves, func(x *wave) bool { return x.loads.room(tree, p.Mesh.Room) })
		if i < 0 {
			i = len(waves)
			waves = append(waves, &wave{loads: loads{}})
		}
		m.Waves[w.Key] = i
		waves[i].loads.add(tree)
		waves[i].far = max(waves[i].far, p.far(w))
	}
	m.Load = all.greatest()
	for _, x := range waves {
		m.Steps += (x.far + 1) * x.loads.greatest()
	}
}

// far returns the greatest distance from the source of a way to a target.
func (p *planner) far(w mesh.Way) int {
	most := 0
	for _, target := range w.Targets {
		// There is no error: all routers of a way exist.
		d, _ := mesh.Distance(p.Mesh, w.Source, target)
		most = max(most, d)
	}
	return most
}

// wave is what sources send together: their loads, and the greatest distance from the home of one of them to a target.
type wave struct {
	loads loads
	far   int
}

// output is an output of a router.
type output struct{ router, out int }

// outputs yields the outputs of all routers in a tree.
func outputs(tree []int) iter.Seq[output] {
	return func(yield func(output) bool) {
		for router, outs := range tree {
			for ; outs != 0; outs &= outs - 1 {
				if !yield(output{router, outs & -outs}) {
					return
				}
			}
		}
	}
}

// loads says how many trees use each output.
type loads map[output]int

// add counts a tree.
func (l loads) add(tree []int) {
	for x := range outputs(tree) {
		l[x]++
	}
}

// room reports whether no output would be used by more trees than there is room for, with one more tree.
func (l loads) room(tree []int, room int) bool {
	for x := range outputs(tree) {
		if l[x] >= room {
			return false
		}
	}
	return true
}

// greatest returns by how many trees an output is used at most.
func (l loads) greatest() int {
	most := 0
	for _, n := range l {
		most = max(most, n)
	}
	return most
}
