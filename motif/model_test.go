package motif_test

import (
	"fmt"
	"reflect"
	"slices"
	"testing"

	"ganglion/api"
	"ganglion/motif"
)

// A model of the networks: it writes each synapse as the chapter does, and reads what it has written.

type model struct {
	neurons []api.Params
	inputs  int
	lines   []string
}

func onceNeuron(h int) api.Params {
	return api.Params{LeakKind: api.LeakNone, Thresh: h, ResetKind: api.ResetTo, Reset: 0, Floor: -api.MaxV}
}

func gateNeuron(h int) api.Params {
	return api.Params{LeakKind: api.LeakShare, Leak: 256, Thresh: h, ResetKind: api.ResetTo, Reset: 0, Floor: 0}
}

func adderNeuron(h int) api.Params {
	return api.Params{LeakKind: api.LeakNone, Thresh: h, ResetKind: api.ResetSub, Floor: 0}
}

func (m *model) line(form string, x ...any) { m.lines = append(m.lines, fmt.Sprintf(form, x...)) }

func (m *model) selves() {
	for i := range m.neurons {
		m.line("%d > %d -32768/1", i, i)
	}
}

func (m *model) net(t *testing.T) api.Net {
	t.Helper()
	out := api.Net{Neurons: m.neurons, Inputs: m.inputs}
	for _, s := range m.lines {
		var x api.Synapse
		if s[0] == '#' {
			if _, e := fmt.Sscanf(s, "#%d > %d %d/%d", &x.From, &x.To, &x.Weight, &x.Delay); e != nil {
				t.Fatal(s, e)
			}
			x.From = -1 - x.From
		} else if _, e := fmt.Sscanf(s, "%d > %d %d/%d", &x.From, &x.To, &x.Weight, &x.Delay); e != nil {
			t.Fatal(s, e)
		}
		out.Synapses = append(out.Synapses, x)
	}
	return out
}

func same(t *testing.T, what string, n api.Net, e api.Errno, m *model) {
	t.Helper()
	if want := m.net(t); e != api.OK || !slices.Equal(n.Neurons, want.Neurons) || n.Inputs != want.Inputs || !slices.Equal(n.Synapses, want.Synapses) {
		t.Errorf("%s: %v, %d, want %v", what, n, e, want)
	}
}

func modelPaths(n int, l []motif.Edge, source int) *model {
	m := &model{inputs: 1}
	for range n {
		m.neurons = append(m.neurons, onceNeuron(1))
	}
	m.line("#0 > %d 1/1", source)
	m.selves()
	for _, x := range l {
		m.line("%d > %d 1/%d", x.From, x.To, x.Length)
	}
	return m
}

func modelSort(n int) *model {
	m := &model{inputs: n}
	for i := range n {
		m.neurons = append(m.neurons, onceNeuron(i+1))
	}
	m.selves()
	for i := range n {
		for k := range n {
			m.line("#%d > %d 1/1", k, i)
		}
	}
	return m
}

func modelMachine(x motif.Auto) *model {
	q, a := len(x.Next), len(x.Next[0])
	m := &model{inputs: a + 1}
	for i := range q + q*a + 1 {
		h := 1
		if i >= q && i < q+q*a {
			h = 2
		}
		m.neurons = append(m.neurons, gateNeuron(h))
	}
	m.line("#%d > %d 1/1", a, x.Start)
	for s := range q {
		for c := range a {
			m.line("%d > %d 1/1", s, q+a*s+c)
			m.line("#%d > %d 1/2", c, q+a*s+c)
			m.line("%d > %d 1/2", q+a*s+c, x.Next[s][c])
		}
	}
	for s := range q {
		if x.Accept[s] {
			m.line("%d > %d 1/1", s, q+q*a)
		}
	}
	return m
}

func modelHorn(n int, l []motif.Clause) *model {
	m := &model{inputs: 1}
	for range n {
		m.neurons = append(m.neurons, onceNeuron(1))
	}
	m.neurons = append(m.neurons, onceNeuron(1))
	for _, x := range l {
		if len(x.If) == 0 {
			m.neurons = append(m.neurons, onceNeuron(1))
		} else {
			m.neurons = append(m.neurons, onceNeuron(len(x.If)))
		}
	}
	m.selves()
	for c, x := range l {
		for _, y := range x.If {
			m.line("%d > %d 1/1", y, n+1+c)
		}
		if len(x.If) == 0 {
			m.line("#0 > %d 1/1", n+1+c)
		}
		if x.Then == -1 {
			m.line("%d > %d 1/1", n+1+c, n)
		} else {
			m.line("%d > %d 1/1", n+1+c, x.Then)
		}
	}
	return m
}

// paired says whether there is a pair with i in In and j in Out.
func paired(l []motif.Pair, i, j int) bool {
	return slices.ContainsFunc(l, func(x motif.Pair) bool { return slices.Contains(x.In, i) && slices.Contains(x.Out, j) })
}

func modelMemory(m, n int, l []motif.Pair) *model {
	out := &model{inputs: m + 1}
	for j := range n {
		out.neurons = append(out.neurons, gateNeuron(1))
		out.line("#%d > %d 1/1", m, j)
		for i := range m {
			if !paired(l, i, j) {
				out.line("#%d > %d -1/1", i, j)
			}
		}
	}
	return out
}

func modelCount(inputs int, l []motif.Tap, h int) *model {
	m := &model{inputs: inputs, neurons: []api.Params{adderNeuron(h)}}
	for _, x := range l {
		m.line("#%d > 0 %d/%d", x.Input, x.Weight, x.Delay)
	}
	return m
}

func modelPattern(inputs int, l []motif.Mark, miss int) *model {
	m := &model{inputs: inputs, neurons: []api.Params{gateNeuron(len(l) - miss)}}
	for _, x := range l {
		m.line("#%d > 0 1/%d", x.Input, 16-x.Offset)
	}
	return m
}

func (g *generator) graph(n, edges int) []motif.Edge {
	var l []motif.Edge
	for range edges {
		l = append(l, motif.Edge{From: g.below(n), To: g.below(n), Length: g.from(1, 16)})
	}
	return l
}

func (g *generator) auto(q, a int) motif.Auto {
	x := motif.Auto{Start: g.below(q)}
	for range q {
		var next []int
		for range a {
			next = append(next, g.below(q))
		}
		x.Next, x.Accept = append(x.Next, next), append(x.Accept, g.below(2) == 0)
	}
	return x
}

// some are at most most different numbers below n, in any order.
func (g *generator) some(n, most int) []int {
	var l []int
	for range g.from(0, most) {
		if x := g.below(n); !slices.Contains(l, x) {
			l = append(l, x)
		}
	}
	return l
}

func (g *generator) clauses(n, count, most int) []motif.Clause {
	var l []motif.Clause
	for range count {
		l = append(l, motif.Clause{If: g.some(n, most), Then: g.from(-1, n-1)})
	}
	return l
}

func (g *generator) pairs(m, n, count int) []motif.Pair {
	var l []motif.Pair
	for range count {
		l = append(l, motif.Pair{In: g.some(m, m), Out: g.some(n, n)})
	}
	return l
}

func (g *generator) taps(inputs, count, most int) []motif.Tap {
	var l []motif.Tap
	for range count {
		l = append(l, motif.Tap{Input: g.below(inputs), Weight: g.from(0, most), Delay: g.from(1, 16)})
	}
	return l
}

func (g *generator) marks(inputs, most int) []motif.Mark {
	l := []motif.Mark{{Input: g.below(inputs), Offset: g.below(16)}}
	for range g.below(most) {
		if x := (motif.Mark{Input: g.below(inputs), Offset: g.below(16)}); !slices.Contains(l, x) {
			l = append(l, x)
		}
	}
	return l
}

// P9.1: the network of a graph is the one that the chapter writes.
func TestP9_1Network(t *testing.T) {
	var g generator = 1
	for i := range 200 {
		n := g.from(1, 12)
		l, source := g.graph(n, g.below(30)), g.below(n)
		net, e := motif.Paths(n, l, source)
		same(t, fmt.Sprint("graph ", i, l, source), net, e, modelPaths(n, l, source))
	}
	l := g.graph(512, 4096)
	net, e := motif.Paths(512, l, 300)
	same(t, "the greatest graph", net, e, modelPaths(512, l, 300))
}

// P9.2: the networks that sort.
func TestP9_2Network(t *testing.T) {
	for n := 1; n <= 64; n++ {
		net, e := motif.Sort(n)
		same(t, fmt.Sprint("sort ", n), net, e, modelSort(n))
	}
}

// P9.3: the networks of automata.
func TestP9_3Network(t *testing.T) {
	var g generator = 3
	for i := range 100 {
		a := g.auto(g.from(1, 6), g.from(1, 4))
		net, e := motif.Machine(a)
		same(t, fmt.Sprint("automaton ", i, a), net, e, modelMachine(a))
	}
	for _, a := range []motif.Auto{wide(1, 1), wide(32, 16), wide(1, 16), wide(32, 1)} {
		net, e := motif.Machine(a)
		same(t, "wide", net, e, modelMachine(a))
	}
}

// P9.4: the networks of clauses, also of those that need more synapses than a network can have: no error is stated for them.
func TestP9_4Network(t *testing.T) {
	var g generator = 5
	for i := range 200 {
		n := g.from(1, 10)
		l := g.clauses(n, g.below(12), min(n, 5))
		net, e := motif.Horn(n, l)
		same(t, fmt.Sprint("clauses ", i, l), net, e, modelHorn(n, l))
	}
	full := motif.Clause{Then: -1}
	for i := range 16 {
		full.If = append(full.If, 255-i)
	}
	l := slices.Repeat([]motif.Clause{full}, 512)
	net, e := motif.Horn(256, l)
	same(t, "the greatest clauses", net, e, modelHorn(256, l))
	if len(net.Synapses) != 9473 {
		t.Errorf("the greatest clauses: %d synapses", len(net.Synapses))
	}
}

// P9.5: the networks of memories.
func TestP9_5Network(t *testing.T) {
	var g generator = 7
	for i := range 200 {
		m, n := g.from(1, 8), g.from(1, 8)
		l := g.pairs(m, n, g.below(4))
		net, e := motif.Memory(m, n, l)
		same(t, fmt.Sprint("memory ", i, l), net, e, modelMemory(m, n, l))
	}
	l := g.pairs(64, 64, 3)
	l = append(l, motif.Pair{In: []int{63, 0}, Out: []int{0, 63}})
	net, e := motif.Memory(64, 64, l)
	same(t, "the greatest memory", net, e, modelMemory(64, 64, l))
	all := motif.Pair{}
	for i := range 64 {
		all.In, all.Out = append(all.In, i), append(all.Out, 63-i)
	}
	net, e = motif.Memory(64, 64, []motif.Pair{all})
	same(t, "all cells together", net, e, modelMemory(64, 64, []motif.Pair{all}))
	if len(net.Synapses) != 64 {
		t.Errorf("all cells together: %d synapses", len(net.Synapses))
	}
}

// P9.6: the networks that count, and that find patterns.
func TestP9_6Network(t *testing.T) {
	var g generator = 9
	for i := range 200 {
		inputs := g.from(1, 6)
		taps, h := g.taps(inputs, g.below(9), api.MaxWeight), g.from(1, api.MaxV)
		net, e := motif.Count(inputs, taps, h)
		same(t, fmt.Sprint("counter ", i, taps), net, e, modelCount(inputs, taps, h))
		marks := g.marks(inputs, 12)
		miss := g.below(len(marks))
		net, e = motif.Pattern(inputs, marks, miss)
		same(t, fmt.Sprint("pattern ", i, marks, miss), net, e, modelPattern(inputs, marks, miss))
	}
}

// R3: a nil list is an empty one.
func TestR3Nil(t *testing.T) {
	for _, l := range [][]motif.Edge{nil, {}} {
		n, e := motif.Paths(2, l, 1)
		same(t, "Paths", n, e, modelPaths(2, nil, 1))
	}
	for _, l := range [][]motif.Clause{nil, {}} {
		n, e := motif.Horn(2, l)
		same(t, "Horn", n, e, modelHorn(2, nil))
	}
	for _, l := range [][]int{nil, {}} {
		n, e := motif.Horn(2, []motif.Clause{{If: l, Then: 1}})
		same(t, "Horn without If", n, e, modelHorn(2, []motif.Clause{{Then: 1}}))
		n, e = motif.Memory(2, 2, []motif.Pair{{In: l, Out: l}})
		same(t, "Memory with a pair of nothing", n, e, modelMemory(2, 2, nil))
		if b, e := motif.Before(1, nil, l); e != api.ErrShape || b != nil {
			t.Errorf("Before: %v, %d", b, e)
		}
	}
	for _, l := range [][]motif.Tap{nil, {}} {
		n, e := motif.Count(2, l, 3)
		same(t, "Count", n, e, modelCount(2, nil, 3))
	}
	for _, l := range [][]motif.Mark{nil, {}} {
		if n, e := motif.Pattern(2, l, 0); e != api.ErrArg || !reflect.DeepEqual(n, api.Net{}) {
			t.Errorf("Pattern: %v, %d", n, e)
		}
	}
}

// spoil changes everything in a network.
func spoil(n api.Net) {
	clear(n.Neurons[:cap(n.Neurons)])
	clear(n.Synapses[:cap(n.Synapses)])
}

// R4: no argument is changed, and a result shares no memory with an argument or with another result.
func TestR4Memory(t *testing.T) {
	var g generator = 11
	edges, a, clauses, pairs, taps, marks := g.graph(5, 9), g.auto(4, 3), g.clauses(5, 6, 3), g.pairs(4, 4, 3), g.taps(3, 5, 9), g.marks(3, 5)
	word, distances, spikes := []int{1, 2, 0}, []int{0, 1, 2, 3, 4}, []api.Event{ev(1, 0), ev(4, 2), ev(3, 1)}
	args := func() string { return fmt.Sprint(edges, a, clauses, pairs, taps, marks, word, distances, spikes) }
	before := args()
	for i, f := range []func() (api.Net, api.Errno){
		func() (api.Net, api.Errno) { return motif.Paths(5, edges, 2) },
		func() (api.Net, api.Errno) { return motif.Sort(5) },
		func() (api.Net, api.Errno) { return motif.Machine(a) },
		func() (api.Net, api.Errno) { return motif.Horn(5, clauses) },
		func() (api.Net, api.Errno) { return motif.Memory(4, 4, pairs) },
		func() (api.Net, api.Errno) { return motif.Count(3, taps, 4) },
		func() (api.Net, api.Errno) { return motif.Pattern(3, marks, 0) },
	} {
		first, _ := f()
		second, _ := f()
		spoil(first)
		third, e := f()
		if e != api.OK || !reflect.DeepEqual(second, third) || len(second.Synapses) == 0 || args() != before {
			t.Errorf("%d: %v and %v, %d", i, second, third, e)
		}
	}
	for i, f := range []func() any{
		func() any { l, _ := motif.Word(a, word); return l },
		func() any { l, _ := motif.States(a, spikes); return l },
		func() any { l, _ := motif.Distances(5, spikes); return l },
		func() any { l, _ := motif.Before(5, edges, distances); return l },
	} {
		first, second := f(), f()
		switch x := first.(type) {
		case []api.Event:
			clear(x[:cap(x)])
		case []int:
			clear(x[:cap(x)])
		}
		if third := f(); !reflect.DeepEqual(second, third) || args() != before {
			t.Errorf("%d: %v and %v", i, second, third)
		}
	}
}
