package place_test

import (
	"slices"

	"ganglion/api"
	"ganglion/mesh"
	"ganglion/net"
	"ganglion/place"
)

// The model does what the chapter says word by word: it counts everything anew for each assignment, and each wave.

func among(x, least, most int) bool { return least <= x && x <= most }

func abs(x int) int { return max(x, -x) }

func checkChipModel(c place.Chip) api.Errno {
	if e := mesh.Check(c.Mesh); e != api.OK {
		return e
	}
	if !among(c.Neurons, 1, 64) || !among(c.Synapses, 1, 4096) || !among(c.Entries, 1, 1024) || !among(c.Bits, 2, 16) {
		return api.ErrRange
	}
	seen := map[int]bool{}
	for _, d := range c.Dead {
		if !among(d, 0, c.Mesh.Wide*c.Mesh.High-1) {
			return api.ErrRange
		}
		if seen[d] {
			return api.ErrHave
		}
		seen[d] = true
	}
	return api.OK
}

// plainModel is what all functions with a network and a chip examine.
func plainModel(n api.Net, c place.Chip) api.Errno {
	if e := net.Check(n); e != api.OK {
		return e
	}
	if e := checkChipModel(c); e != api.OK {
		return e
	}
	if len(n.Neurons)+n.Inputs > 256 {
		return api.ErrMany
	}
	return api.OK
}

func checkModel(n api.Net, c place.Chip, cores []int) api.Errno {
	if e := plainModel(n, c); e != api.OK {
		return e
	}
	if len(cores) != len(n.Neurons) {
		return api.ErrShape
	}
	for _, core := range cores {
		if !among(core, 0, c.Mesh.Wide*c.Mesh.High-1) {
			return api.ErrRange
		}
		if slices.Contains(c.Dead, core) {
			return api.ErrDown
		}
	}
	if !holds(n, c, cores) {
		return api.ErrFull
	}
	return api.OK
}

// holds reports whether no core has too many neurons or rows; the neurons from len(cores) on are nowhere yet.
func holds(n api.Net, c place.Chip, cores []int) bool {
	for core := range c.Mesh.Wide * c.Mesh.High {
		neurons, rows := 0, 0
		for _, x := range cores {
			if x == core {
				neurons++
			}
		}
		for _, s := range n.Synapses {
			if s.To < len(cores) && cores[s.To] == core {
				rows++
			}
		}
		if neurons > c.Neurons || rows > c.Synapses {
			return false
		}
	}
	return true
}

// sourceModel is the number of the source of a synapse.
func sourceModel(n api.Net, s api.Synapse) int {
	if s.From >= 0 {
		return s.From
	}
	return len(n.Neurons) + -1 - s.From
}

func homeModel(n api.Net, cores []int, source int) int {
	if source < len(n.Neurons) {
		return cores[source]
	}
	return 0
}

// targetsModel are the cores to which synapses lead from a source, in the order of the synapses.
func targetsModel(n api.Net, cores []int, source int) []int {
	var l []int
	for _, s := range n.Synapses {
		if sourceModel(n, s) == source {
			l = append(l, cores[s.To])
		}
	}
	return l
}

// hop is a link, or the way from a router to its core (to is -1).
type hop struct{ from, to int }

// treeModel are the outputs that the routes from the home of a source to its targets take.
func treeModel(n api.Net, c place.Chip, cores []int, source int) map[hop]bool {
	tree := map[hop]bool{}
	for _, target := range targetsModel(n, cores, source) {
		l, _ := mesh.Route(c.Mesh, homeModel(n, cores, source), target)
		for i := 1; i < len(l); i++ {
			tree[hop{l[i-1], l[i]}] = true
		}
		tree[hop{target, -1}] = true
	}
	return tree
}

func costModel(n api.Net, c place.Chip, cores []int) int {
	sum := 0
	for source := range len(n.Neurons) + n.Inputs {
		for x := range treeModel(n, c, cores, source) {
			if x.to >= 0 {
				sum++
			}
		}
	}
	return sum
}

func lowModel(n api.Net, c place.Chip) int {
	sum := 0
	for source := range len(n.Neurons) + n.Inputs {
		ends := map[int]bool{}
		for _, s := range n.Synapses {
			if sourceModel(n, s) == source {
				ends[s.To] = true
			}
		}
		if len(ends) == 0 {
			continue
		}
		if source < len(n.Neurons) {
			ends[source] = true
		}
		k := 0
		for k*c.Neurons < len(ends) {
			k++
		}
		sum += k - 1
	}
	return sum
}

// quotientModel compares integers from 0 on, so that of two that are equally near the one nearer to 0 is found first.
func quotientModel(w, s int) int {
	sign := 1
	if w < 0 {
		sign = -1
	}
	best := 0
	for q := 0; q*s <= abs(w)+s; q++ {
		if abs(w-sign*q*s) < abs(w-sign*best*s) {
			best = q
		}
	}
	return sign * best
}

// scaleFits reports whether a scale is possible for some weights.
func scaleFits(weights []int, s, bits int) bool {
	for _, w := range weights {
		q := quotientModel(w, s)
		if q < -(1<<(bits-1)) || q > 1<<(bits-1)-1 || abs(q*s) > 1<<15 {
			return false
		}
	}
	return true
}

// weightsOf are the weights of the synapses that lead to a neuron.
func weightsOf(n api.Net, neuron int) []int {
	var l []int
	for _, s := range n.Synapses {
		if s.To == neuron {
			l = append(l, s.Weight)
		}
	}
	return l
}

func quantiseModel(n api.Net, bits int) place.Quant {
	q := place.Quant{Net: api.Net{Neurons: n.Neurons, Inputs: n.Inputs}, Exact: true}
	for i := range n.Neurons {
		weights := weightsOf(n, i)
		scale, off := 1, 0
		for !scaleFits(weights, scale, bits) {
			scale++
		}
		for _, w := range weights {
			off = max(off, abs(w-quotientModel(w, scale)*scale))
		}
		q.Scales = append(q.Scales, scale)
		q.Errors = append(q.Errors, off)
		q.Exact = q.Exact && off == 0
	}
	for _, s := range n.Synapses {
		quot := quotientModel(s.Weight, q.Scales[s.To])
		s.Weight = quot * q.Scales[s.To]
		q.Quots = append(q.Quots, quot)
		q.Net.Synapses = append(q.Net.Synapses, s)
	}
	return q
}

// placeModel returns false if there is no core with space.
func placeModel(n api.Net, c place.Chip) ([]int, bool) {
	var cores []int
	for i := range n.Neurons {
		core, most := -1, -1
		for x := range c.Mesh.Wide * c.Mesh.High {
			if slices.Contains(c.Dead, x) || !holds(n, c, append(slices.Clone(cores), x)) {
				continue
			}
			count := 0
			for _, s := range n.Synapses {
				if s.From == i && s.To < i && cores[s.To] == x {
					count++
				}
				if s.To == i && among(s.From, 0, i-1) && cores[s.From] == x {
					count++
				}
			}
			if count > most {
				core, most = x, count
			}
		}
		if core < 0 {
			return nil, false
		}
		cores = append(cores, core)
	}
	return cores, true
}

func improveModel(n api.Net, c place.Chip, cores []int, rounds int) []int {
	cores = slices.Clone(cores)
	for range rounds {
		for i := range cores {
			least, best := costModel(n, c, cores), cores[i]
			for x := range c.Mesh.Wide * c.Mesh.High {
				moved := slices.Clone(cores)
				moved[i] = x
				if checkModel(n, c, moved) == api.OK && costModel(n, c, moved) < least {
					least, best = costModel(n, c, moved), x
				}
			}
			cores[i] = best
		}
	}
	return cores
}

// loadModel is the greatest number of trees of some sources that use one output.
func loadModel(n api.Net, c place.Chip, cores, sources []int) int {
	uses, most := map[hop]int{}, 0
	for _, source := range sources {
		for x := range treeModel(n, c, cores, source) {
			uses[x]++
			most = max(most, uses[x])
		}
	}
	return most
}

// ofWave are the sources of a wave.
func ofWave(waves []int, wave int) []int {
	var l []int
	for source, w := range waves {
		if w == wave {
			l = append(l, source)
		}
	}
	return l
}

// farModel is the greatest distance from the home of one of some sources to a target.
func farModel(n api.Net, c place.Chip, cores, sources []int) int {
	most := 0
	for _, source := range sources {
		for _, target := range targetsModel(n, cores, source) {
			d, _ := mesh.Distance(c.Mesh, homeModel(n, cores, source), target)
			most = max(most, d)
		}
	}
	return most
}

func tablesModel(n api.Net, c place.Chip, cores []int) ([][]mesh.Entry, bool) {
	var ways []mesh.Way
	for source := range len(n.Neurons) + n.Inputs {
		if l := targetsModel(n, cores, source); len(l) > 0 {
			ways = append(ways, mesh.Way{Key: source, Source: homeModel(n, cores, source), Targets: l})
		}
	}
	tables, _ := mesh.Tables(c.Mesh, ways)
	for i, l := range tables {
		if len(l) > c.Entries {
			var keys []int
			for _, x := range l {
				keys = append(keys, x.Key)
			}
			tables[i], _ = mesh.Merge(l, keys)
		}
		if len(tables[i]) > c.Entries {
			return nil, false
		}
	}
	return tables, true
}

// mapModel returns the mapping of a valid assignment, or false if a table has too many entries.
func mapModel(n api.Net, c place.Chip, cores []int) (place.Mapping, bool) {
	m := place.Mapping{Cores: cores, Quant: quantiseModel(n, c.Bits), Rows: make([][]place.Row, c.Mesh.Wide*c.Mesh.High), Cost: costModel(n, c, cores)}
	tables, ok := tablesModel(n, c, cores)
	if !ok {
		return place.Mapping{}, false
	}
	m.Tables = tables
	for i, core := range cores {
		slot := 0
		for _, x := range cores[:i] {
			if x == core {
				slot++
			}
		}
		m.Slots = append(m.Slots, slot)
	}
	for i, s := range n.Synapses {
		core := cores[s.To]
		m.Rows[core] = append(m.Rows[core], place.Row{Key: sourceModel(n, s), Slot: m.Slots[s.To], Weight: m.Quant.Quots[i], Delay: s.Delay})
	}
	var all []int
	for source := range len(n.Neurons) + n.Inputs {
		wave := -1
		if len(targetsModel(n, cores, source)) > 0 {
			all = append(all, source)
			for wave = 0; loadModel(n, c, cores, append(ofWave(m.Waves, wave), source)) > c.Mesh.Room; {
				wave++
			}
		}
		m.Waves = append(m.Waves, wave)
	}
	m.Load = loadModel(n, c, cores, all)
	for wave := range len(m.Waves) {
		l := ofWave(m.Waves, wave)
		m.Steps += (farModel(n, c, cores, l) + 1) * loadModel(n, c, cores, l)
	}
	return m, true
}

func sameNet(a, b api.Net) bool {
	return slices.Equal(a.Neurons, b.Neurons) && a.Inputs == b.Inputs && slices.Equal(a.Synapses, b.Synapses)
}

func sameQuant(a, b place.Quant) bool {
	return sameNet(a.Net, b.Net) && slices.Equal(a.Scales, b.Scales) && slices.Equal(a.Quots, b.Quots) && slices.Equal(a.Errors, b.Errors) && a.Exact == b.Exact
}

func sameMapping(a, b place.Mapping) bool {
	return slices.Equal(a.Cores, b.Cores) && slices.Equal(a.Slots, b.Slots) && sameQuant(a.Quant, b.Quant) &&
		slices.EqualFunc(a.Rows, b.Rows, slices.Equal[[]place.Row]) && slices.EqualFunc(a.Tables, b.Tables, slices.Equal[[]mesh.Entry]) &&
		slices.Equal(a.Waves, b.Waves) && a.Cost == b.Cost && a.Load == b.Load && a.Steps == b.Steps
}
