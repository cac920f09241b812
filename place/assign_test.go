package place_test

import (
	"slices"
	"testing"

	"ganglion/api"
	"ganglion/mesh"
	"ganglion/place"
)

// improve and cost are the functions for arguments that are known to be valid.
func improve(t *testing.T, n api.Net, c place.Chip, cores []int, rounds int) []int {
	t.Helper()
	l, e := place.Improve(n, c, cores, rounds)
	if e != api.OK {
		t.Fatalf("Improve(%v, %v, %v, %d): the error %d", n, c, cores, rounds, e)
	}
	return l
}

func cost(t *testing.T, n api.Net, c place.Chip, cores []int) int {
	t.Helper()
	x, e := place.Cost(n, c, cores)
	if e != api.OK {
		t.Fatalf("Cost(%v, %v, %v): the error %d", n, c, cores, e)
	}
	return x
}

// grid is a chip of 3 by 2 cores.
func grid() place.Chip {
	return place.Chip{Mesh: mesh.Spec{Wide: 3, High: 2, Room: 2}, Neurons: 2, Synapses: 8, Entries: 16, Bits: 8}
}

// with returns a chip with other numbers.
func with(c place.Chip, neurons, synapses int, dead ...int) place.Chip {
	c.Neurons, c.Synapses, c.Dead = neurons, synapses, dead
	return c
}

// pairs is a network whose neurons i and i + 3 have to do with each other.
func pairs() api.Net {
	return api.Net{Neurons: neurons(6), Synapses: []api.Synapse{syn(0, 3, 1, 1), syn(4, 1, 1, 1), syn(1, 4, 1, 1), syn(2, 5, 1, 1), syn(5, 0, 1, 1)}}
}

// P7.4: the examples of the chapter, and neurons that find some cores without space.
func TestP7_4Place(t *testing.T) {
	both := api.Net{Neurons: neurons(4), Inputs: 1, Synapses: []api.Synapse{syn(0, 3, 1, 1), syn(1, 3, 1, 1), syn(3, 1, 0, 1), syn(3, 3, 1, 1), syn(-1, 3, 1, 1)}}
	tie := api.Net{Neurons: neurons(4), Synapses: []api.Synapse{syn(3, 2, 1, 1), syn(1, 3, 1, 1)}}
	for name, x := range map[string]struct {
		n    api.Net
		c    place.Chip
		want []int
	}{
		"the example":                {chain(), small(), []int{0, 1}},
		"the example, two in a core": {chain(), with(small(), 2, 4), []int{0, 0}},
		"pairs":                      {pairs(), grid(), []int{0, 0, 1, 1, 2, 2}},
		"pairs, three in a core":     {pairs(), with(grid(), 3, 8), []int{0, 0, 0, 1, 1, 1}},
		"dead cores":                 {pairs(), with(grid(), 2, 8, 2, 0), []int{1, 1, 3, 3, 4, 4}},
		"few rows":                   {pairs(), with(grid(), 2, 1), []int{0, 1, 0, 2, 3, 4}},
		"the most synapses decide":   {both, with(grid(), 2, 4, 0, 1), []int{2, 2, 3, 3}},
		"one core each":              {both, with(grid(), 1, 4, 0), []int{1, 2, 3, 4}},
		"of equal ones the first":    {tie, with(grid(), 1, 4), []int{0, 1, 2, 3}},
		"no synapses":                {api.Net{Neurons: neurons(3)}, grid(), []int{0, 0, 1}},
		"as many as there are":       {api.Net{Neurons: neurons(12)}, grid(), []int{0, 0, 1, 1, 2, 2, 3, 3, 4, 4, 5, 5}},
	} {
		l, e := place.Place(x.n, x.c)
		if e != api.OK || !slices.Equal(l, x.want) {
			t.Errorf("%s: %v, %d, want %v", name, l, e, x.want)
		}
	}
}

// P7.4: a neuron goes where most of its synapses lead to or come from, of which each one counts.
func TestP7_4PlaceCounts(t *testing.T) {
	// The neurons 0 and 1 get 4 rows each, so that they are on the cores 0 and 1; both have space for the neuron 2.
	c := with(grid(), 3, 7)
	for _, x := range []struct {
		synapses []api.Synapse
		core     int
	}{
		{nil, 0},
		{[]api.Synapse{syn(2, 1, 1, 1)}, 1},
		{[]api.Synapse{syn(1, 2, 1, 1)}, 1},
		{[]api.Synapse{syn(1, 2, 0, 1)}, 1},
		{[]api.Synapse{syn(2, 1, 1, 1), syn(0, 2, 1, 1)}, 0},
		{[]api.Synapse{syn(2, 1, 1, 1), syn(1, 2, 1, 1), syn(0, 2, 1, 1)}, 1},
		{[]api.Synapse{syn(2, 1, 1, 1), syn(2, 1, 1, 1), syn(0, 2, 1, 1)}, 1},
		{[]api.Synapse{syn(2, 1, 1, 1), syn(0, 2, 1, 1), syn(2, 0, 1, 1)}, 0},
		{[]api.Synapse{syn(2, 2, 1, 1), syn(2, 2, 1, 1), syn(1, 2, 1, 1)}, 1},
		{[]api.Synapse{syn(2, 3, 1, 1), syn(3, 2, 1, 1), syn(2, 1, 1, 1)}, 1},
		{[]api.Synapse{syn(-1, 2, 1, 1), syn(-1, 2, 1, 1), syn(2, 1, 1, 1)}, 1},
	} {
		l := slices.Clone(x.synapses)
		for neuron := range 2 {
			for count(l, neuron) < 4 {
				l = append(l, syn(-1, neuron, 1, 1))
			}
		}
		cores, e := place.Place(api.Net{Neurons: neurons(4), Inputs: 1, Synapses: l}, c)
		if e != api.OK || !slices.Equal(cores[:3], []int{0, 1, x.core}) {
			t.Errorf("Place with %v: %v, %d, want the core %d", x.synapses, cores, e, x.core)
		}
	}
}

// count is how many synapses lead to a neuron.
func count(l []api.Synapse, neuron int) int {
	n := 0
	for _, s := range l {
		if s.To == neuron {
			n++
		}
	}
	return n
}

// P7.4: there can be no core with space, though other choices before would have left one.
func TestP7_4PlaceErrors(t *testing.T) {
	greedy := api.Net{Neurons: neurons(3), Inputs: 1, Synapses: []api.Synapse{syn(-1, 0, 1, 1), syn(-1, 1, 1, 1), syn(-1, 2, 1, 1), syn(-1, 2, 1, 1), syn(-1, 2, 1, 1)}}
	for name, x := range map[string]struct {
		n    api.Net
		c    place.Chip
		want api.Errno
	}{
		"all cores are dead":     {chain(), with(small(), 1, 4, 0, 1), api.ErrFull},
		"one core too few":       {chain(), with(small(), 1, 4, 0), api.ErrFull},
		"a neuron with too many": {greedy, with(small(), 3, 2), api.ErrFull},
		"rows in another core":   {greedy, with(small(), 2, 3), api.OK},
		"rows that do not fit":   {greedy, with(place.Chip{Mesh: mesh.Spec{Wide: 1, High: 1, Room: 1}, Entries: 1, Bits: 2}, 3, 4), api.ErrFull},
		"rows that just fit":     {greedy, with(place.Chip{Mesh: mesh.Spec{Wide: 1, High: 1, Room: 1}, Entries: 1, Bits: 2}, 3, 5), api.OK},
		"the network first":      {api.Net{}, place.Chip{}, api.ErrArg},
		"then the chip":          {api.Net{Neurons: neurons(300)}, place.Chip{}, api.ErrRange},
		"then the sources":       {api.Net{Neurons: neurons(300)}, small(), api.ErrMany},
	} {
		if l, e := place.Place(x.n, x.c); e != x.want || e != api.OK && len(l) > 0 {
			t.Errorf("%s: %v, %d, want %d", name, l, e, x.want)
		}
	}
	// The neurons 0 and 1 with a row each share the core 0, so that no core has space for both neurons with two rows.
	var soon api.Net
	soon.Neurons, soon.Inputs = neurons(4), 1
	for _, neuron := range []int{0, 1, 2, 2, 3, 3} {
		soon.Synapses = append(soon.Synapses, syn(-1, neuron, 1, 1))
	}
	c := with(small(), 2, 3)
	if l, e := place.Place(soon, c); e != api.ErrFull || len(l) > 0 || place.Check(soon, c, []int{0, 1, 0, 1}) != api.OK {
		t.Errorf("Place where another choice would have left space: %v, %d", l, e)
	}
}

// P7.4: neurons are placed as the definition says.
func TestP7_4PlaceModel(t *testing.T) {
	var g generator = 97
	full := 0
	for range 5000 {
		n, c := g.network(12, 40, 9), g.chip(4)
		want, ok := placeModel(n, c)
		l, e := place.Place(n, c)
		if ok != (e == api.OK) || !ok && e != api.ErrFull || !slices.Equal(l, want) {
			t.Fatalf("Place(%v, %v): %v, %d, want %v", n, c, l, e, want)
		}
		if !ok {
			full++
		} else if e := place.Check(n, c, l); e != api.OK {
			t.Fatalf("Place(%v, %v): %v is not valid: %d", n, c, l, e)
		}
	}
	if full < 500 || full > 4500 {
		t.Errorf("%d of 5000 networks found no cores", full)
	}
}

// P7.4: the examples of the chapter, and moves that can be found by hand.
func TestP7_4Improve(t *testing.T) {
	line := place.Chip{Mesh: mesh.Spec{Wide: 4, High: 1, Room: 1}, Neurons: 1, Synapses: 8, Entries: 8, Bits: 8}
	pair := api.Net{Neurons: neurons(2), Synapses: []api.Synapse{syn(0, 1, 1, 1)}}
	for name, x := range map[string]struct {
		n      api.Net
		c      place.Chip
		cores  []int
		rounds int
		want   []int
	}{
		"the example":              {chain(), small(), []int{1, 0}, 1, []int{1, 0}},
		"the example with space":   {chain(), with(small(), 2, 4), []int{1, 0}, 1, []int{0, 0}},
		"no rounds":                {pair, with(line, 2, 8), []int{0, 3}, 0, []int{0, 3}},
		"to the other one":         {pair, with(line, 2, 8), []int{0, 3}, 1, []int{3, 3}},
		"beside the other one":     {pair, line, []int{0, 3}, 1, []int{2, 3}},
		"the first of equal ones":  {pair, line, []int{0, 2}, 1, []int{1, 2}},
		"on either side":           {pair, with(line, 1, 8, 1), []int{0, 2}, 1, []int{3, 2}},
		"no better core":           {pair, with(line, 1, 8, 1), []int{0, 3}, 1, []int{2, 3}},
		"rows that do not fit":     {pair, with(line, 2, 1), []int{0, 3}, 1, []int{3, 3}},
		"towards the input":        {api.Net{Neurons: neurons(1), Inputs: 1, Synapses: []api.Synapse{syn(-1, 0, 1, 1)}}, line, []int{3}, 1, []int{0}},
		"an equal cost is no gain": {api.Net{Neurons: neurons(2), Inputs: 1, Synapses: []api.Synapse{syn(-1, 1, 1, 1), syn(1, 0, 1, 1)}}, line, []int{2, 1}, 16, []int{2, 1}},
		"without synapses":         {api.Net{Neurons: neurons(3)}, line, []int{3, 1, 2}, 16, []int{3, 1, 2}},
		"from itself":              {api.Net{Neurons: neurons(1), Synapses: []api.Synapse{syn(0, 0, 1, 1)}}, line, []int{3}, 16, []int{3}},
	} {
		before := slices.Clone(x.cores)
		l, e := place.Improve(x.n, x.c, x.cores, x.rounds)
		if e != api.OK || !slices.Equal(l, x.want) {
			t.Errorf("%s: %v, %d, want %v", name, l, e, x.want)
		}
		if !slices.Equal(x.cores, before) {
			t.Errorf("%s: the assignment was %v, is %v", name, before, x.cores)
		}
	}
}

// P7.4: the assignment comes before the rounds.
func TestP7_4ImproveErrors(t *testing.T) {
	for _, x := range []struct {
		cores  []int
		rounds int
		want   api.Errno
	}{
		{[]int{0, 1}, 0, api.OK}, {[]int{0, 1}, 16, api.OK}, {[]int{0, 1}, -1, api.ErrRange}, {[]int{0, 1}, 17, api.ErrRange},
		{[]int{0}, 17, api.ErrShape}, {[]int{0, 0}, -1, api.ErrFull}, {[]int{0, 2}, 0, api.ErrRange},
	} {
		if l, e := place.Improve(chain(), small(), x.cores, x.rounds); e != x.want || e != api.OK && len(l) > 0 {
			t.Errorf("Improve of %v, %d rounds: %v, %d, want %d", x.cores, x.rounds, l, e, x.want)
		}
	}
}

// P7.4, R4: an improved assignment is new memory, also if nothing was moved.
func TestP7_4NewMemory(t *testing.T) {
	cores := []int{0, 1}
	for _, rounds := range []int{0, 1} {
		l := improve(t, chain(), small(), cores, rounds)
		l[0] = 9
		if cores[0] != 0 {
			t.Fatalf("the assignment and the improved one share memory")
		}
	}
}

// P7.4: assignments are improved as the definition says, move by move.
func TestP7_4ImproveModel(t *testing.T) {
	var g generator = 101
	moved, late := 0, 0
	for range 1200 {
		n, c, cores := g.planned(7, 16, 3)
		rounds := g.one(0, 1, 1, 2, 4)
		l, want := improve(t, n, c, cores, rounds), improveModel(n, c, cores, rounds)
		if !slices.Equal(l, want) {
			t.Fatalf("Improve(%v, %v, %v, %d): %v, want %v", n, c, cores, rounds, l, want)
		}
		if !slices.Equal(l, cores) {
			moved++
		}
		if rounds > 1 && !slices.Equal(l, improve(t, n, c, cores, 1)) {
			late++
		}
	}
	if moved < 300 || late < 20 {
		t.Errorf("%d assignments were improved, %d of them behind the first round", moved, late)
	}
}

// P7.7: no assignment costs less than the bound, on whatever chip with as many neurons in a core.
func TestP7_7Bound(t *testing.T) {
	var g generator = 103
	reached := 0
	for range 5000 {
		n, c, cores := g.planned(10, 20, 5)
		other := g.chip(8)
		other.Neurons = c.Neurons
		low, e := place.Low(n, other)
		if x := cost(t, n, c, cores); e != api.OK || x < low {
			t.Fatalf("%v on %v: the cost %d of %v, the bound %d, %d", n, c, x, cores, low, e)
		} else if x == low {
			reached++
		}
	}
	if reached < 100 {
		t.Errorf("the bound was reached only %d times", reached)
	}
}

// P7.7: an improved assignment is valid and does not cost more; behind a round that changes nothing no neuron alone can
// be moved so that it costs less. Rounds one by one do the same as together.
func TestP7_7Improved(t *testing.T) {
	var g generator = 107
	less := 0
	for range 400 {
		n, c, cores := g.planned(14, 40, 5)
		first, together := cores, improve(t, n, c, cores, 16)
		for range 16 {
			l := improve(t, n, c, cores, 1)
			before, after := cost(t, n, c, cores), cost(t, n, c, l)
			if after > before {
				t.Fatalf("Improve(%v, %v, %v): %v, the cost %d, before %d", n, c, cores, l, after, before)
			}
			if after < before {
				less++
			}
			if slices.Equal(l, cores) {
				noMove(t, n, c, cores)
				break
			}
			cores = l
		}
		if !slices.Equal(cores, together) {
			t.Fatalf("Improve(%v, %v, %v): %v, round by round %v", n, c, first, together, cores)
		}
	}
	if less < 300 {
		t.Errorf("only %d rounds made it cost less", less)
	}
}

// noMove checks that no neuron alone can be moved so that an assignment costs less.
func noMove(t *testing.T, n api.Net, c place.Chip, cores []int) {
	t.Helper()
	now := cost(t, n, c, cores)
	for i := range cores {
		for core := range c.Mesh.Wide * c.Mesh.High {
			moved := slices.Clone(cores)
			moved[i] = core
			if place.Check(n, c, moved) == api.OK && cost(t, n, c, moved) < now {
				t.Fatalf("%v on %v: %v costs more than %v", n, c, cores, moved)
			}
		}
	}
}
