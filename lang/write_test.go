package lang_test

import (
	"slices"
	"strconv"
	"strings"
	"testing"

	"ganglion/api"
	"ganglion/lang"
)

// params draws a valid neuron, mostly one of few.
func (g *generator) params() api.Params {
	p := api.Params{Thresh: g.from(1, 3), Floor: -g.below(2), Rest: g.below(2)}
	if g.below(8) == 0 {
		p = api.Params{Bias: g.from(-api.MaxV, api.MaxV), Thresh: g.from(1, api.MaxV), Floor: -g.below(api.MaxV + 1), Rest: g.below(api.MaxRest + 1)}
	}
	switch g.below(4) {
	case 0:
		p.LeakKind, p.Leak = api.LeakLine, g.from(1, 2)
	case 1:
		p.LeakKind, p.Leak = api.LeakShare, g.from(255, 256)
	}
	if p.ResetKind = g.below(2); p.ResetKind == api.ResetTo {
		p.Reset = g.from(p.Floor, p.Thresh-1)
	}
	return p
}

// net draws a valid network with some runs of equal neurons, of which a few are too many to be written.
func (g *generator) net(runs, synapses int) api.Net {
	n := api.Net{Inputs: g.below(4) * g.below(80)}
	kinds := []api.Params{g.params(), g.params()}
	for range g.from(1, runs) {
		if g.below(3) == 0 {
			kinds = append(kinds, g.params())
		}
		p := kinds[g.below(len(kinds))]
		for range g.from(1, 5) {
			n.Neurons = append(n.Neurons, p)
		}
	}
	for range g.below(synapses + 1) {
		from := g.from(-n.Inputs, len(n.Neurons)-1)
		n.Synapses = append(n.Synapses, synapse(from, g.below(len(n.Neurons)), g.from(-api.MaxWeight, api.MaxWeight), g.from(1, api.MaxDelay)))
	}
	return n
}

// writeModel finds the number of each kind and of each population anew, by counting, wherever it is needed.
func writeModel(n api.Net) (string, api.Errno) {
	var kinds, pops, wires []string
	kindOf := func(i int) int {
		count := 0
		for k := range slices.Index(n.Neurons, n.Neurons[i]) {
			if slices.Index(n.Neurons, n.Neurons[k]) == k {
				count++
			}
		}
		return count
	}
	begins := func(i int) bool { return i == 0 || n.Neurons[i] != n.Neurons[i-1] }
	place := func(i int) string {
		if i < 0 {
			return "x " + strconv.Itoa(-1-i)
		}
		pop, first := -1, 0
		for k := range i + 1 {
			if begins(k) {
				pop, first = pop+1, k
			}
		}
		return "p" + strconv.Itoa(pop) + " " + strconv.Itoa(i-first)
	}
	for i, p := range n.Neurons {
		if slices.Index(n.Neurons, p) == i {
			kinds = append(kinds, "neuron k"+strconv.Itoa(kindOf(i))+kindModel(p))
		}
		if begins(i) {
			end := i + 1
			for end < len(n.Neurons) && !begins(end) {
				end++
			}
			pops = append(pops, "pop p"+strconv.Itoa(len(pops))+" "+strconv.Itoa(end-i)+" k"+strconv.Itoa(kindOf(i)))
		}
	}
	if n.Inputs > 0 {
		pops = append(pops, "input x "+strconv.Itoa(n.Inputs))
	}
	for _, s := range n.Synapses {
		wires = append(wires, "wire "+place(s.From)+" "+place(s.To)+" weight "+strconv.Itoa(s.Weight)+" delay "+strconv.Itoa(s.Delay))
	}
	all := slices.Concat(kinds, pops, wires)
	if len(kinds) > 64 || len(pops) > 64 || len(all) > 4096 {
		return "", api.ErrMany
	}
	if s := strings.Join(all, "\n") + "\n"; len(s) <= 1<<16 {
		return s, api.OK
	}
	return "", api.ErrLong
}

func kindModel(p api.Params) string {
	s := []string{" none", " line " + strconv.Itoa(p.Leak), " share " + strconv.Itoa(p.Leak)}[p.LeakKind]
	s += " bias " + strconv.Itoa(p.Bias) + " thresh " + strconv.Itoa(p.Thresh)
	s += []string{" to " + strconv.Itoa(p.Reset), " sub"}[p.ResetKind]
	return s + " floor " + strconv.Itoa(p.Floor) + " rest " + strconv.Itoa(p.Rest)
}

func TestP6_6Write(t *testing.T) {
	a := api.Params{Thresh: 5, Floor: -4, Rest: 1}
	b := api.Params{LeakKind: api.LeakLine, Leak: 3, Bias: -1, Thresh: 9, ResetKind: api.ResetSub}
	c := api.Params{LeakKind: api.LeakShare, Leak: 256, Bias: 1048576, Thresh: 1048576, Reset: -1048576, Floor: -1048576, Rest: 64}
	for _, x := range []struct {
		n    api.Net
		want []string
	}{
		{api.Net{Neurons: []api.Params{a}, Inputs: 1, Synapses: []api.Synapse{synapse(-1, 0, 6, 2)}}, []string{
			"neuron k0 none bias 0 thresh 5 to 0 floor -4 rest 1", "pop p0 1 k0", "input x 1", "wire x 0 p0 0 weight 6 delay 2"}},
		{api.Net{Neurons: []api.Params{a}}, []string{"neuron k0 none bias 0 thresh 5 to 0 floor -4 rest 1", "pop p0 1 k0"}},
		{api.Net{Neurons: []api.Params{a, a, b, a, c, c, b}, Inputs: 256, Synapses: []api.Synapse{synapse(-256, 1, -32768, 16), synapse(6, 5, 0, 1), synapse(3, 3, 32768, 7), synapse(6, 5, 0, 1)}}, []string{
			"neuron k0 none bias 0 thresh 5 to 0 floor -4 rest 1", "neuron k1 line 3 bias -1 thresh 9 sub floor 0 rest 0",
			"neuron k2 share 256 bias 1048576 thresh 1048576 to -1048576 floor -1048576 rest 64",
			"pop p0 2 k0", "pop p1 1 k1", "pop p2 1 k0", "pop p3 2 k2", "pop p4 1 k1", "input x 256",
			"wire x 255 p0 1 weight -32768 delay 16", "wire p4 0 p3 1 weight 0 delay 1", "wire p2 0 p2 0 weight 32768 delay 7", "wire p4 0 p3 1 weight 0 delay 1"}},
		{api.Net{Neurons: slices.Repeat([]api.Params{b}, api.MaxNeurons), Synapses: []api.Synapse{synapse(1023, 10, 1, 1)}}, []string{
			"neuron k0 line 3 bias -1 thresh 9 sub floor 0 rest 0", "pop p0 1024 k0", "wire p0 1023 p0 10 weight 1 delay 1"}},
	} {
		if s, want := write(t, x.n), text(append(x.want, "")...); s != want {
			t.Errorf("Write(%v): %q, want %q", x.n, s, want)
		}
	}
}

// different returns so many neurons, of which any two are of different kinds.
func different(n int) []api.Params {
	var l []api.Params
	for i := range n {
		l = append(l, api.Params{Thresh: i + 1})
	}
	return l
}

func TestP6_6Errors(t *testing.T) {
	one := []api.Synapse{synapse(0, 0, 1, 1)}
	two := different(2)
	for name, x := range map[string]struct {
		n    api.Net
		want api.Errno
	}{
		"nothing":              {api.Net{}, api.ErrArg},
		"too many neurons":     {api.Net{Neurons: different(1025)}, api.ErrMany},
		"negative inputs":      {api.Net{Neurons: different(1), Inputs: -1}, api.ErrRange},
		"an odd leak":          {api.Net{Neurons: []api.Params{{LeakKind: 3, Thresh: 1}}}, api.ErrArg},
		"an odd synapse":       {api.Net{Neurons: different(1), Synapses: []api.Synapse{synapse(-1, 0, 1, 1)}}, api.ErrRange},
		"Check before kinds":   {api.Net{Neurons: append(different(65), api.Params{})}, api.ErrRange},
		"64 kinds":             {api.Net{Neurons: different(64)}, api.OK},
		"65 kinds":             {api.Net{Neurons: different(65)}, api.ErrMany},
		"64 populations":       {api.Net{Neurons: slices.Repeat(two, 32)}, api.OK},
		"65 populations":       {api.Net{Neurons: append(slices.Repeat(two, 32), two[0])}, api.ErrMany},
		"63 and inputs":        {api.Net{Neurons: slices.Repeat(two, 32)[1:], Inputs: 2}, api.OK},
		"64 and inputs":        {api.Net{Neurons: slices.Repeat(two, 32), Inputs: 2}, api.ErrMany},
		"4096 statements":      {api.Net{Neurons: different(1), Synapses: slices.Repeat(one, 4094)}, api.ErrLong},
		"4097 statements":      {api.Net{Neurons: different(1), Synapses: slices.Repeat(one, 4095)}, api.ErrMany},
		"4096 with inputs":     {api.Net{Neurons: different(1), Inputs: 1, Synapses: slices.Repeat(one, 4093)}, api.ErrLong},
		"4097 with inputs":     {api.Net{Neurons: different(1), Inputs: 1, Synapses: slices.Repeat(one, 4094)}, api.ErrMany},
		"4096 with more kinds": {api.Net{Neurons: different(64), Synapses: slices.Repeat(one, 4096-128)}, api.ErrLong},
		"4097 with more kinds": {api.Net{Neurons: different(64), Synapses: slices.Repeat(one, 4097-128)}, api.ErrMany},
		"as much as can be":    {api.Net{Neurons: slices.Repeat(two, 512), Inputs: 256, Synapses: slices.Repeat(one, 8192)}, api.ErrMany},
	} {
		if s, e := lang.Write(x.n); e != x.want || (s == "") != (e != api.OK) {
			t.Errorf("Write of %s: %d bytes, %d, want %d", name, len(s), e, x.want)
		}
	}
}

// A text of MaxText bytes is written, and read again, but none with one byte more.
func TestP6_6Longest(t *testing.T) {
	n := api.Net{Neurons: different(1)}
	empty := len(write(t, n))
	n.Synapses = []api.Synapse{synapse(0, 0, 1, 1)}
	wire := len(write(t, n)) - empty
	n.Synapses = slices.Repeat(n.Synapses, (api.MaxText-empty)/wire)
	left := (api.MaxText - empty) % wire
	for i := range left {
		n.Synapses[i].Weight = 10
	}
	s := write(t, n)
	if len(s) != api.MaxText {
		t.Fatalf("the text has %d bytes", len(s))
	}
	if p := build(t, s, 1); !sameNet(p.Net, n) {
		t.Error("the longest text is not read as what was written")
	}
	n.Synapses[left].Weight = 10
	if s, e := lang.Write(n); s != "" || e != api.ErrLong {
		t.Errorf("Write of one byte more: %d bytes, %d", len(s), e)
	}
}

// Write is what the chapter says, for networks of many kinds.
func TestP6_6Model(t *testing.T) {
	var g generator = 11
	failed := map[api.Errno]int{}
	for i := range 1500 {
		n := g.net([]int{4, 20, 90}[i%3], []int{20, 200, 1900}[i/3%3])
		s, e := lang.Write(n)
		want, wantE := writeModel(n)
		if s != want || e != wantE {
			t.Fatalf("Write(%v): %q, %d, want %q, %d", n, s, e, want, wantE)
		}
		failed[e]++
	}
	if failed[api.OK] < 800 || failed[api.ErrMany] < 50 || failed[api.ErrLong] < 20 {
		t.Errorf("the errors were %v", failed)
	}
}

// P6.8, G3: what is written is read as the same network, for each seed.
func TestP6_8Written(t *testing.T) {
	var g generator = 13
	a := api.Params{LeakKind: api.LeakLine, Leak: 1, Thresh: 5, Floor: -4, Rest: 1}
	nets := []api.Net{{Neurons: []api.Params{a, a}, Inputs: 1, Synapses: []api.Synapse{synapse(-1, 0, 6, 1), synapse(0, 1, 6, 3)}}}
	for i := range 1500 {
		nets = append(nets, g.net([]int{4, 20, 60}[i%3], []int{20, 200, 1500}[i/3%3]))
	}
	written := 0
	for _, n := range nets {
		s, e := lang.Write(n)
		if e != api.OK {
			continue
		}
		written++
		for _, seed := range []uint64{0, 1, 1<<64 - 1, uint64(g) * 5} {
			if p := build(t, s, seed); !sameNet(p.Net, n) || len(p.Probes) != 0 {
				t.Fatalf("Build(Write(%v), %d): %v", n, seed, p)
			}
		}
		if again := write(t, build(t, s, 2).Net); again != s || format(t, s) != s {
			t.Fatalf("Write of what was read of %q: %q", s, again)
		}
	}
	if written < 1000 {
		t.Errorf("only %d networks were written", written)
	}
}
