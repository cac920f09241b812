package place_test

import (
	"math"
	"slices"
	"testing"

	"ganglion/api"
	"ganglion/mesh"
	"ganglion/net"
	"ganglion/place"
)

func syn(from, to, weight, delay int) api.Synapse {
	return api.Synapse{From: from, To: to, Weight: weight, Delay: delay}
}

// neurons are so many neurons A of the document.
func neurons(n int) []api.Params {
	return slices.Repeat([]api.Params{{LeakKind: api.LeakLine, Leak: 1, Thresh: 5, Floor: -4, Rest: 1}}, n)
}

// chain is the network E of the document.
func chain() api.Net {
	return api.Net{Neurons: neurons(2), Inputs: 1, Synapses: []api.Synapse{syn(-1, 0, 6, 1), syn(0, 1, 6, 3)}}
}

// small is the chip C of the chapter's examples.
func small() place.Chip {
	return place.Chip{Mesh: mesh.Spec{Wide: 2, High: 1, Room: 1}, Neurons: 1, Synapses: 4, Entries: 4, Bits: 3}
}

// great is the greatest chip.
func great() place.Chip {
	return place.Chip{Mesh: mesh.Spec{Wide: 8, High: 8, Room: 64}, Neurons: 64, Synapses: 4096, Entries: 1024, Bits: 16}
}

// edges are numbers at and around all bounds, and the greatest ones of all.
var edges = []int{0, 1, -1, 2, 3, 4, 7, 8, 9, 15, 16, 17, 63, 64, 65, 255, 256, 257, 1024, 1025, 4095, 4096, 4097, 32768, 32769, -32768, -32769, math.MaxInt, math.MinInt, math.MaxInt - 1, math.MinInt + 1}

// generator is the generator of the document, so that every run of the tests has the same cases.
type generator uint64

func (g *generator) below(n int) int {
	*g = *g*6364136223846793005 + 1442695040888963407
	return int(uint64(*g) >> 33 % uint64(n))
}

func (g *generator) from(least, most int) int { return least + g.below(most-least+1) }

func (g *generator) one(l ...int) int { return l[g.below(len(l))] }

// network draws a valid network with at most so many neurons, with absolute values of weights up to weight.
func (g *generator) network(most, synapses, weight int) api.Net {
	n := api.Net{Neurons: neurons(g.from(1, most)), Inputs: g.below(4)}
	for range g.below(synapses + 1) {
		n.Synapses = append(n.Synapses, syn(g.from(-n.Inputs, len(n.Neurons)-1), g.below(len(n.Neurons)), g.from(-weight, weight), g.from(1, 16)))
	}
	return n
}

// chip draws a valid chip whose sides are at most so long.
func (g *generator) chip(side int) place.Chip {
	c := place.Chip{
		Mesh:     mesh.Spec{Wide: g.from(1, side), High: g.from(1, side), Room: g.one(1, 1, 2, 3, 64)},
		Neurons:  g.one(1, 2, 2, 3, 5, 64),
		Synapses: g.one(3, 5, 8, 20, 4096),
		Entries:  g.one(1, 2, 3, 4, 6, 1024),
		Bits:     g.from(2, 16),
	}
	for core := range c.Mesh.Wide * c.Mesh.High {
		if g.below(8) == 0 {
			c.Dead = append(c.Dead, core)
		}
	}
	return c
}

// cores draws a valid assignment; false stands for a neuron that found no core.
func (g *generator) cores(n api.Net, c place.Chip) ([]int, bool) {
	var l []int
	for range n.Neurons {
		var spaces []int
		for core := range c.Mesh.Wide * c.Mesh.High {
			if !slices.Contains(c.Dead, core) && holds(n, c, append(slices.Clone(l), core)) {
				spaces = append(spaces, core)
			}
		}
		if len(spaces) == 0 {
			return nil, false
		}
		l = append(l, g.one(spaces...))
	}
	return l, true
}

// planned draws a network, a chip and a valid assignment.
func (g *generator) planned(most, synapses, side int) (api.Net, place.Chip, []int) {
	for {
		n, c := g.network(most, synapses, 1<<g.below(16)), g.chip(side)
		if l, ok := g.cores(n, c); ok {
			return n, c, l
		}
	}
}

// anyNet draws a network of which some numbers can be wrong.
func (g *generator) anyNet() api.Net {
	n := g.network(6, 12, 40)
	if g.below(3) == 0 {
		switch g.below(6) {
		case 0:
			n.Neurons = nil
		case 1:
			n.Inputs = g.one(edges...)
		case 2:
			n.Neurons[g.below(len(n.Neurons))].Thresh = g.one(edges...)
		default:
			n.Synapses = append(n.Synapses, syn(g.one(edges...), g.one(edges...), g.one(edges...), g.one(edges...)))
		}
	}
	return n
}

// anyChip draws a chip of which some numbers can be wrong.
func (g *generator) anyChip() place.Chip {
	c := g.chip(4)
	for range g.below(3) {
		field := []*int{&c.Mesh.Wide, &c.Mesh.High, &c.Mesh.Room, &c.Neurons, &c.Synapses, &c.Entries, &c.Bits}
		if i := g.below(2 * len(field)); i < len(field) {
			*field[i] = g.one(edges...)
		} else {
			c.Dead = append(c.Dead, g.one(edges...))
		}
	}
	return c
}

// anyCores draws an assignment that can be wrong.
func (g *generator) anyCores(n api.Net, c place.Chip) []int {
	var l []int
	for range len(n.Neurons) {
		l = append(l, g.below(4))
	}
	if m, e := place.Place(n, c); e == api.OK && g.below(2) == 0 {
		l = m
	}
	if g.below(3) == 0 && len(l) > 0 {
		l[g.below(len(l))] = g.one(edges...)
	}
	if g.below(8) == 0 {
		l = append(l, g.one(edges...))
	}
	return l
}

func cloneNet(n api.Net) api.Net {
	return api.Net{Neurons: slices.Clone(n.Neurons), Inputs: n.Inputs, Synapses: slices.Clone(n.Synapses)}
}

// P0, R2, R4: whatever the numbers are, every function returns, has nothing with an error, and changes no argument;
// and the errors of P7.1 to P7.4 are those of the model, in their order.
func TestP0AnyNumbers(t *testing.T) {
	var g generator = 71
	codes := map[api.Errno]int{}
	for range 30000 {
		n, c := g.anyNet(), g.anyChip()
		cores, rounds, bits := g.anyCores(n, c), g.one(-1, 0, 1, 2, 16, 17, math.MaxInt, math.MinInt), g.one(edges...)
		before, dead, given := cloneNet(n), slices.Clone(c.Dead), slices.Clone(cores)
		if e := place.CheckChip(c); e != checkChipModel(c) {
			t.Fatalf("CheckChip(%v): %d, want %d", c, e, checkChipModel(c))
		}
		want := checkModel(n, c, cores)
		codes[want]++
		if e := place.Check(n, c, cores); e != want {
			t.Fatalf("Check(%v, %v, %v): %d, want %d", n, c, cores, e, want)
		}
		if x, e := place.Cost(n, c, cores); e != want || e != api.OK && x != 0 {
			t.Fatalf("Cost(%v, %v, %v): %d, %d, want the error %d", n, c, cores, x, e, want)
		}
		if m, e := place.Map(n, c, cores); want != api.OK && e != want || e != api.OK && !sameMapping(m, place.Mapping{}) {
			t.Fatalf("Map(%v, %v, %v): %v, %d, want the error %d", n, c, cores, m, e, want)
		}
		if want == api.OK && !among(rounds, 0, 16) {
			want = api.ErrRange
		}
		if l, e := place.Improve(n, c, cores, rounds); e != want || e != api.OK && len(l) > 0 {
			t.Fatalf("Improve(%v, %v, %v, %d): %v, %d, want the error %d", n, c, cores, rounds, l, e, want)
		}
		want = plainModel(n, c)
		if x, e := place.Low(n, c); e != want || e != api.OK && x != 0 {
			t.Fatalf("Low(%v, %v): %d, %d, want the error %d", n, c, x, e, want)
		}
		if l, e := place.Place(n, c); e != want && (want != api.OK || e != api.ErrFull) || e != api.OK && len(l) > 0 {
			t.Fatalf("Place(%v, %v): %v, %d, want the error %d", n, c, l, e, want)
		}
		want = net.Check(n)
		if want == api.OK && !among(bits, 2, 16) {
			want = api.ErrRange
		}
		if q, e := place.Quantise(n, bits); e != want || e != api.OK && !sameQuant(q, place.Quant{}) {
			t.Fatalf("Quantise(%v, %d): %v, %d, want the error %d", n, bits, q, e, want)
		}
		if !sameNet(n, before) || !slices.Equal(c.Dead, dead) || !slices.Equal(cores, given) {
			t.Fatalf("the arguments %v, %v, %v were changed", before, dead, given)
		}
	}
	for _, e := range []api.Errno{api.OK, api.ErrRange, api.ErrArg, api.ErrHave, api.ErrShape, api.ErrFull, api.ErrDown} {
		if codes[e] < 100 {
			t.Errorf("only %d cases with the error %d", codes[e], e)
		}
	}
}

// P0: the greatest networks on the greatest chips are done in time.
func TestP0Greatest(t *testing.T) {
	var g generator = 5
	c := great()
	c.Mesh.Room, c.Neurons = 1, 5
	for _, sources := range []int{91, 256} {
		n := api.Net{Neurons: neurons(sources)}
		for i := range 8192 {
			n.Synapses = append(n.Synapses, syn(i%sources, i/sources%sources, g.from(-32768, 32768), 1))
		}
		var cores []int
		for i := range sources {
			cores = append(cores, i*37%64)
		}
		before := cost(t, n, c, cores)
		l, e := place.Improve(n, c, cores, 16)
		if e != api.OK || cost(t, n, c, l) >= before {
			t.Errorf("Improve: %d, the cost %d, before %d", e, cost(t, n, c, l), before)
		}
		if _, e := place.Place(n, c); e != api.OK {
			t.Errorf("Place: %d", e)
		}
		// All sources lead to the core of the neuron 0, over its output Local.
		if m, e := place.Map(n, c, cores); e != api.OK || m.Cost != before || m.Load != sources || slices.Max(m.Waves) != sources-1 {
			t.Errorf("Map: %d, the cost %d, want %d, the load %d, want %d", e, m.Cost, before, m.Load, sources)
		}
	}
	n := api.Net{Neurons: neurons(1024)}
	for i := range 8192 {
		n.Synapses = append(n.Synapses, syn(0, i%1024, 32768-65536*(i/1024%2), 1))
	}
	if q, e := place.Quantise(n, 2); e != api.OK || slices.Min(q.Scales) != 21846 || slices.Max(q.Scales) != 21846 {
		t.Errorf("Quantise: %d", e)
	}
}

// P7.1: each number of a chip has its range, and comes behind the mesh; dead cores are examined one by one.
func TestP7_1CheckChip(t *testing.T) {
	type chip = place.Chip
	for name, x := range map[string]struct {
		change func(c *chip)
		want   api.Errno
	}{
		"nothing":                   {func(*chip) {}, api.OK},
		"the mesh before the chip":  {func(c *chip) { c.Mesh.Room, c.Neurons, c.Dead = 65, 0, []int{0, 0} }, api.ErrRange},
		"a mesh without columns":    {func(c *chip) { c.Mesh.Wide = 0 }, api.ErrRange},
		"a mesh that is too high":   {func(c *chip) { c.Mesh.High = 9 }, api.ErrRange},
		"no neurons":                {func(c *chip) { c.Neurons = 0 }, api.ErrRange},
		"the most neurons":          {func(c *chip) { c.Neurons = 64 }, api.OK},
		"too many neurons":          {func(c *chip) { c.Neurons = 65 }, api.ErrRange},
		"no rows":                   {func(c *chip) { c.Synapses = 0 }, api.ErrRange},
		"one row":                   {func(c *chip) { c.Synapses = 1 }, api.OK},
		"the most rows":             {func(c *chip) { c.Synapses = 4096 }, api.OK},
		"too many rows":             {func(c *chip) { c.Synapses = 4097 }, api.ErrRange},
		"no entries":                {func(c *chip) { c.Entries = 0 }, api.ErrRange},
		"one entry":                 {func(c *chip) { c.Entries = 1 }, api.OK},
		"the most entries":          {func(c *chip) { c.Entries = 1024 }, api.OK},
		"too many entries":          {func(c *chip) { c.Entries = 1025 }, api.ErrRange},
		"one bit":                   {func(c *chip) { c.Bits = 1 }, api.ErrRange},
		"two bits":                  {func(c *chip) { c.Bits = 2 }, api.OK},
		"the most bits":             {func(c *chip) { c.Bits = 16 }, api.OK},
		"too many bits":             {func(c *chip) { c.Bits = 17 }, api.ErrRange},
		"all cores are dead":        {func(c *chip) { c.Dead = []int{1, 0} }, api.OK},
		"a dead core twice":         {func(c *chip) { c.Dead = []int{1, 0, 1, 2} }, api.ErrHave},
		"a dead core behind all":    {func(c *chip) { c.Dead = []int{0, 2, 0} }, api.ErrRange},
		"a dead core before all":    {func(c *chip) { c.Dead = []int{-1, -1} }, api.ErrRange},
		"a number before dead ones": {func(c *chip) { c.Bits, c.Dead = 0, []int{1, 1} }, api.ErrRange},
	} {
		c := small()
		x.change(&c)
		if e := place.CheckChip(c); e != x.want {
			t.Errorf("%s: %d, want %d", name, e, x.want)
		}
		// P7.3: all functions with a network and a chip return this error.
		if _, e := place.Low(chain(), c); e != x.want {
			t.Errorf("Low, %s: %d, want %d", name, e, x.want)
		}
	}
}

// P7.3: the errors of an assignment, of which the one that is named first decides.
func TestP7_3Check(t *testing.T) {
	dead := small()
	dead.Dead = []int{1}
	two := small()
	two.Neurons = 2
	rows := two
	rows.Synapses = 1
	many := api.Net{Neurons: neurons(200), Inputs: 57}
	for name, x := range map[string]struct {
		n     api.Net
		c     place.Chip
		cores []int
		want  api.Errno
	}{
		"beside each other":          {chain(), small(), []int{0, 1}, api.OK},
		"turned":                     {chain(), small(), []int{1, 0}, api.OK},
		"the network first":          {api.Net{}, place.Chip{}, nil, api.ErrArg},
		"then the chip":              {many, place.Chip{}, nil, api.ErrRange},
		"then the chip's dead cores": {many, place.Chip{Mesh: small().Mesh, Neurons: 1, Synapses: 1, Entries: 1, Bits: 2, Dead: []int{0, 0}}, nil, api.ErrHave},
		"then the sources":           {many, small(), nil, api.ErrMany},
		"then the elements":          {chain(), small(), []int{-1}, api.ErrShape},
		"too many elements":          {chain(), small(), []int{0, 1, 0}, api.ErrShape},
		"a core behind all":          {chain(), small(), []int{0, 2}, api.ErrRange},
		"a core before all":          {chain(), small(), []int{-1, 0}, api.ErrRange},
		"a dead core":                {chain(), dead, []int{0, 1}, api.ErrDown},
		"a dead core first":          {chain(), dead, []int{1, 2}, api.ErrDown},
		"no core first":              {chain(), dead, []int{2, 1}, api.ErrRange},
		"then the space":             {chain(), small(), []int{0, 0}, api.ErrFull},
		"no core behind no space":    {api.Net{Neurons: neurons(3)}, small(), []int{0, 0, 2}, api.ErrRange},
		"a dead one behind no space": {api.Net{Neurons: neurons(3)}, dead, []int{0, 0, 1}, api.ErrDown},
		"enough space":               {chain(), two, []int{1, 1}, api.OK},
		"too many rows":              {chain(), rows, []int{0, 0}, api.ErrFull},
		"rows apart":                 {chain(), rows, []int{0, 1}, api.OK},
	} {
		if e := place.Check(x.n, x.c, x.cores); e != x.want {
			t.Errorf("Check, %s: %d, want %d", name, e, x.want)
		}
		if y, e := place.Cost(x.n, x.c, x.cores); e != x.want || e != api.OK && y != 0 {
			t.Errorf("Cost, %s: %d, %d, want %d", name, y, e, x.want)
		}
		if l, e := place.Improve(x.n, x.c, x.cores, 1); e != x.want || e != api.OK && len(l) > 0 {
			t.Errorf("Improve, %s: %v, %d, want %d", name, l, e, x.want)
		}
		if _, e := place.Map(x.n, x.c, x.cores); e != x.want {
			t.Errorf("Map, %s: %d, want %d", name, e, x.want)
		}
	}
}

// P7.3: a network with just as many sources as are allowed, and one more.
func TestP7_3Sources(t *testing.T) {
	for _, x := range []struct {
		neurons, inputs int
		want            api.Errno
	}{{256, 0, api.OK}, {1, 255, api.OK}, {128, 128, api.OK}, {257, 0, api.ErrMany}, {1, 256, api.ErrMany}} {
		n := api.Net{Neurons: neurons(x.neurons), Inputs: x.inputs, Synapses: []api.Synapse{syn(0, x.neurons-1, 1, 1)}}
		if _, e := place.Low(n, great()); e != x.want {
			t.Errorf("Low of %d neurons and %d inputs: %d, want %d", x.neurons, x.inputs, e, x.want)
		}
		if _, e := place.Place(n, great()); e != x.want {
			t.Errorf("Place of %d neurons and %d inputs: %d, want %d", x.neurons, x.inputs, e, x.want)
		}
	}
}

// P7.3: the examples of the chapter, and costs that can be counted by hand.
func TestP7_3Costs(t *testing.T) {
	two := small()
	two.Neurons = 2
	grid := place.Chip{Mesh: mesh.Spec{Wide: 3, High: 2, Room: 2}, Neurons: 2, Synapses: 8, Entries: 16, Bits: 8}
	one := grid
	one.Neurons = 1
	star := api.Net{Neurons: neurons(6), Inputs: 2, Synapses: []api.Synapse{syn(0, 1, 1, 1), syn(0, 2, 1, 1), syn(0, 5, 0, 1), syn(0, 5, 1, 2)}}
	self := api.Net{Neurons: neurons(6), Inputs: 2, Synapses: []api.Synapse{syn(5, 5, 1, 1), syn(-2, 5, 1, 1), syn(-2, 4, 1, 1), syn(-2, 3, 1, 1)}}
	for name, x := range map[string]struct {
		n         api.Net
		c         place.Chip
		cores     []int
		cost, low int
	}{
		"beside each other":        {chain(), small(), []int{0, 1}, 1, 1},
		"turned":                   {chain(), small(), []int{1, 0}, 2, 1},
		"together":                 {chain(), two, []int{1, 1}, 1, 0},
		"at home":                  {chain(), two, []int{0, 0}, 0, 0},
		"without synapses":         {api.Net{Neurons: neurons(2), Inputs: 2}, small(), []int{1, 0}, 0, 0},
		"a star, with shared ways": {star, one, []int{0, 1, 2, 3, 4, 5}, 3, 3},
		"a star, columns apart":    {star, one, []int{0, 3, 4, 1, 2, 5}, 1 + 2 + 2, 3},
		"a star, two in a core":    {star, grid, []int{0, 0, 1, 1, 2, 2}, 2, 1},
		"a weight of 0":            {api.Net{Neurons: neurons(2), Synapses: []api.Synapse{syn(0, 1, 0, 1)}}, small(), []int{1, 0}, 1, 1},
		"from itself, and inputs":  {self, one, []int{0, 1, 2, 3, 4, 5}, 3 + 1 + 1, 2},
		"inputs, two in a core":    {self, grid, []int{0, 0, 1, 1, 2, 2}, 2, 1},
	} {
		a, e := place.Cost(x.n, x.c, x.cores)
		b, f := place.Low(x.n, x.c)
		if e != api.OK || f != api.OK || a != x.cost || b != x.low {
			t.Errorf("%s: the cost %d, %d, the bound %d, %d, want %d, %d", name, a, e, b, f, x.cost, x.low)
		}
	}
}

// P7.3: the cost and its bound are as the definitions say.
func TestP7_3CostsModel(t *testing.T) {
	var g generator = 73
	for range 5000 {
		n, c, cores := g.planned(12, 30, 8)
		a, e := place.Cost(n, c, cores)
		b, f := place.Low(n, c)
		if e != api.OK || f != api.OK || a != costModel(n, c, cores) || b != lowModel(n, c) {
			t.Fatalf("%v on %v, %v: the cost %d, %d, the bound %d, %d, want %d, %d", n, c, cores, a, e, b, f, costModel(n, c, cores), lowModel(n, c))
		}
	}
}
