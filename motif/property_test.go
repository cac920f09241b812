package motif_test

import (
	"cmp"
	"slices"
	"testing"

	"ganglion/api"
	"ganglion/motif"
	"ganglion/net"
)

// byTick is the order of events.
func byTick(a, b api.Event) int { return cmp.Or(cmp.Compare(a.Tick, b.Tick), cmp.Compare(a.Id, b.Id)) }

// runs returns the spikes of a network that was made without an error, by ticks, and the same by events.
func runs(t *testing.T, n api.Net, e api.Errno, in []api.Event, ticks int) []api.Event {
	t.Helper()
	if e != api.OK || net.Check(n) != api.OK {
		t.Fatalf("error %d; Check: %d", e, net.Check(n))
	}
	slices.SortFunc(in, byTick)
	l, e := net.Run(n, in, ticks)
	if e != api.OK {
		t.Fatalf("Run: %d", e)
	}
	driven, e := net.Driven(n, in, ticks)
	if e != api.OK || !slices.Equal(driven, l) {
		t.Fatalf("Driven: %v, %d, want %v", driven, e, l)
	}
	return l
}

// ways returns the lengths of shortest paths, or -1: it makes ways shorter until none can be made shorter.
func ways(n int, l []motif.Edge, source int) []int {
	d := slices.Repeat([]int{-1}, n)
	d[source] = 0
	for again := true; again; {
		again = false
		for _, x := range l {
			if d[x.From] >= 0 && (d[x.To] < 0 || d[x.From]+x.Length < d[x.To]) {
				d[x.To], again = d[x.From]+x.Length, true
			}
		}
	}
	return d
}

// checkPaths checks the spikes for a graph, the distances, and the vertices before.
func checkPaths(t *testing.T, n int, l []motif.Edge, source int) (reached int) {
	t.Helper()
	made, e := motif.Paths(n, l, source)
	spikes := runs(t, made, e, []api.Event{ev(0, 0)}, 16*n)
	d := ways(n, l, source)
	var want []api.Event
	for v, far := range d {
		if far >= 0 {
			want = append(want, ev(far+1, v))
		}
	}
	slices.SortFunc(want, byTick)
	if !slices.Equal(spikes, want) {
		t.Fatalf("%v from %d: %v, want %v", l, source, spikes, want)
	}
	if out, e := motif.Distances(n, spikes); e != api.OK || !slices.Equal(out, d) {
		t.Fatalf("Distances for %v from %d: %v, %d, want %v", l, source, out, e, d)
	}
	before, e := motif.Before(n, l, d)
	for v, far := range d {
		b := before[v]
		if e != api.OK || (b >= 0) != (far > 0) || b >= 0 && !slices.ContainsFunc(l, func(x motif.Edge) bool { return x.From == b && x.To == v && d[b]+x.Length == far }) {
			t.Fatalf("Before for %v from %d: %v, %d", l, source, before, e)
		}
	}
	return len(want)
}

// P9.7, P9.8: each vertex spikes once, one tick after its distance, and Distances and Before say the ways.
func TestP9_8Paths(t *testing.T) {
	var g generator = 21
	reached, missed := 0, 0
	for range 300 {
		n := g.from(1, 14)
		k := checkPaths(t, n, g.graph(n, g.below(40)), g.below(n))
		reached, missed = reached+k, missed+n-k
	}
	if reached < 500 || missed < 200 {
		t.Errorf("%d reached, %d not", reached, missed)
	}
	for range 3 {
		checkPaths(t, 512, g.graph(512, 4096), g.below(512))
		checkPaths(t, 20, g.graph(20, 4096), g.below(20))
	}
}

// P9.8: the longest way of all, in the ticks that are stated for it, and many edges between the same two vertices.
func TestP9_8Long(t *testing.T) {
	var l []motif.Edge
	for i := range 511 {
		l = append(l, motif.Edge{From: i, To: i + 1, Length: 16}, motif.Edge{From: i + 1, To: i, Length: 1})
	}
	if k := checkPaths(t, 512, l, 0); k != 512 {
		t.Errorf("%d reached", k)
	}
	var twins []motif.Edge
	for i := range 4096 {
		twins = append(twins, motif.Edge{From: i / 2 % 2, To: i % 2, Length: i%16 + 1})
	}
	if k := checkPaths(t, 2, twins, 1); k != 2 {
		t.Errorf("%d reached", k)
	}
}

// P9.7: the neuron i of a network that sorts answers the event with the number i.
func TestP9_7Sort(t *testing.T) {
	var g generator = 23
	ties := 0
	for i := range 200 {
		n := g.one(1, 2, 5, 20, 64)
		last := []int{1, 6, 100, 5000}[i%4]
		var in []api.Event
		var ticks []int
		for k := range n {
			tick := g.below(last)
			in, ticks = append(in, ev(tick, k)), append(ticks, tick)
		}
		slices.Sort(ticks)
		var want []api.Event
		for k, tick := range ticks {
			want = append(want, ev(tick+1, k))
			if k > 0 && ticks[k-1] == tick {
				ties++
			}
		}
		made, e := motif.Sort(n)
		if l := runs(t, made, e, in, last+70); !slices.Equal(l, want) {
			t.Fatalf("%v: %v, want %v", in, l, want)
		}
	}
	if ties < 100 {
		t.Errorf("%d events with another in the same tick", ties)
	}
}

// checkWord checks the spikes of an automaton for a word, symbol by symbol, and says whether the word is accepted.
func checkWord(t *testing.T, a motif.Auto, word []int) bool {
	t.Helper()
	made, e := motif.Machine(a)
	in, f := motif.Word(a, word)
	if f != api.OK || !slices.IsSortedFunc(in, byTick) {
		t.Fatalf("Word of %v: %v, %d", word, in, f)
	}
	spikes := runs(t, made, e, in, 3*len(word)+12)
	q, symbols := len(a.Next), len(a.Next[0])
	at, states, want := a.Start, []int{}, []api.Event(nil)
	for k := 0; k <= len(word); k++ {
		states, want = append(states, at), append(want, ev(3*k+1, at))
		if a.Accept[at] {
			want = append(want, ev(3*k+2, q+q*symbols))
		}
		if k < len(word) {
			at = a.Next[at][word[k]]
		}
	}
	shown := slices.DeleteFunc(slices.Clone(spikes), func(x api.Event) bool { return x.Id >= q && x.Id < q+q*symbols })
	if !slices.Equal(shown, want) {
		t.Fatalf("%v, the word %v: %v, want %v", a, word, shown, want)
	}
	if l, e := motif.States(a, spikes); e != api.OK || !slices.Equal(l, states) {
		t.Fatalf("States of %v, the word %v: %v, %d, want %v", a, word, l, e, states)
	}
	return a.Accept[at]
}

// P9.7: an automaton goes through its states, and says which words are accepted.
func TestP9_7Machine(t *testing.T) {
	var g generator = 25
	yes := 0
	for range 300 {
		a := g.auto(g.from(1, 6), g.from(1, 4))
		var word []int
		for range g.below(15) {
			word = append(word, g.below(len(a.Next[0])))
		}
		if checkWord(t, a, word) {
			yes++
		}
	}
	if yes < 80 || yes > 220 {
		t.Errorf("%d words of 300 accepted", yes)
	}
	var word []int
	for range 3000 {
		word = append(word, g.below(16))
	}
	checkWord(t, g.auto(32, 16), word)
}

// rounds returns the round in which each thing holds, and behind them that of what must not be; 0 for never.
func rounds(n int, l []motif.Clause) []int {
	out := make([]int, n+1)
	for round, again := 1, true; again; round++ {
		again = false
		for _, x := range l {
			then := (x.Then + n + 1) % (n + 1)
			all := !slices.ContainsFunc(x.If, func(y int) bool { return out[y] == 0 || out[y] == round })
			if all && out[then] == 0 {
				out[then], again = round, true
			}
		}
	}
	return out
}

// P9.7: what follows from clauses spikes once, in twice its round, and nothing else does.
func TestP9_7Horn(t *testing.T) {
	var g generator = 27
	bad, late, never := 0, 0, 0
	check := func(n int, l []motif.Clause) {
		made, e := motif.Horn(n, l)
		spikes := runs(t, made, e, []api.Event{ev(0, 0)}, 2*n+20)
		shown := slices.DeleteFunc(slices.Clone(spikes), func(x api.Event) bool { return x.Id > n })
		var want []api.Event
		for i, r := range rounds(n, l) {
			if r > 0 {
				want = append(want, ev(2*r, i))
			} else {
				never++
			}
			if r > 3 {
				late++
			}
			if r > 0 && i == n {
				bad++
			}
		}
		slices.SortFunc(want, byTick)
		if !slices.Equal(shown, want) {
			t.Fatalf("%v: %v, want %v", l, shown, want)
		}
	}
	for range 400 {
		n := g.from(1, 12)
		check(n, g.clauses(n, g.below(5*n), min(n, 3)))
	}
	// a chain through all things, to a contradiction, with clauses that go back
	chain := []motif.Clause{{Then: 255}, {If: []int{0}, Then: -1}}
	for i := range 255 {
		chain = append(chain, motif.Clause{If: []int{i + 1}, Then: i}, motif.Clause{If: []int{0, i + 1}, Then: 255})
	}
	check(256, chain)
	check(256, g.clauses(256, 400, 16))
	if bad < 50 || late < 50 || never < 500 {
		t.Errorf("%d contradictory, %d late, %d never", bad, late, never)
	}
}

// P9.7: the answer of a memory has the cells that are paired with each cell of the cue.
func TestP9_7Memory(t *testing.T) {
	var g generator = 29
	none, part, all := 0, 0, 0
	for i := range 400 {
		m, n := g.one(1, 3, 8, 64), g.one(1, 3, 8, 64)
		l := g.pairs(m, n, g.below(6))
		cue, tick := g.some(m, 3), g.below(20)
		if i%10 == 0 {
			cue = nil
		}
		in := []api.Event{ev(tick, m)}
		for _, x := range cue {
			in = append(in, ev(tick, x))
		}
		var want []api.Event
		for j := range n {
			if !slices.ContainsFunc(cue, func(x int) bool { return !paired(l, x, j) }) {
				want = append(want, ev(tick+1, j))
			}
		}
		made, e := motif.Memory(m, n, l)
		if out := runs(t, made, e, in, 40); !slices.Equal(out, want) {
			t.Fatalf("memory %d, %d, %v, cue %v: %v, want %v", m, n, l, cue, out, want)
		}
		switch len(want) {
		case 0:
			none++
		case n:
			all++
		default:
			part++
		}
	}
	if none < 50 || part < 50 || all < 50 {
		t.Errorf("no cells %d times, some %d times, all %d times", none, part, all)
	}
}

// arrivals returns how much comes to a counter in each tick.
func arrivals(l []motif.Tap, in []api.Event, ticks int) []int {
	out := make([]int, ticks)
	for _, x := range in {
		for _, y := range l {
			if at := x.Tick + y.Delay; y.Input == x.Id && at < ticks {
				out[at] += y.Weight
			}
		}
	}
	return out
}

// checkCount checks a counter: what came up to each tick bounds its spikes, and in the end it has all of them.
func checkCount(t *testing.T, inputs int, l []motif.Tap, h int, in []api.Event, ticks int) int {
	t.Helper()
	made, e := motif.Count(inputs, l, h)
	spikes := runs(t, made, e, in, ticks)
	came := 0
	for tick, x := range arrivals(l, in, ticks) {
		came += x
		had := 0
		for _, y := range spikes {
			if y.Tick <= tick {
				had++
			}
		}
		if had > came/h {
			t.Fatalf("%v, threshold %d, events %v: %d spikes up to %d", l, h, in, had, tick)
		}
	}
	if came > api.MaxV || len(spikes) != came/h {
		t.Fatalf("%v, threshold %d, events %v: %d spikes of %d", l, h, in, len(spikes), came)
	}
	return len(spikes)
}

// P9.7: a counter spikes as often as the weights contain its threshold.
func TestP9_7Count(t *testing.T) {
	var g generator = 31
	many := 0
	for range 300 {
		inputs := g.from(1, 5)
		l, h := g.taps(inputs, g.from(1, 6), g.one(1, 7, 60)), g.one(1, 2, 9, 100)
		var in []api.Event
		for tick := range 30 {
			for id := range inputs {
				if g.below(10) == 0 {
					in = append(in, ev(tick, id))
				}
			}
		}
		most := 0
		for _, x := range arrivals(l, in, 50) {
			most += x
		}
		many += checkCount(t, inputs, l, h, in, 50+most)
	}
	if many < 1000 {
		t.Errorf("%d spikes", many)
	}
	// all that is allowed, at once or not, and thresholds that it contains once or often
	great := slices.Repeat([]motif.Tap{{Weight: 1 << 15, Delay: 16}}, 32)
	for _, h := range []int{1 << 20, 1<<20 - 1, 1 << 19, 1<<19 + 1, 1000, 600} {
		if k := checkCount(t, 1, great, h, []api.Event{ev(3, 0)}, 3000); k != 1<<20/h {
			t.Errorf("threshold %d: %d spikes", h, k)
		}
	}
	for i := range great {
		great[i].Weight, great[i].Delay = 1<<14, i%16+1
	}
	checkCount(t, 1, great, 1<<20, []api.Event{ev(0, 0), ev(9, 0)}, 60)
	checkCount(t, 1, great, 999, []api.Event{ev(0, 0), ev(9, 0)}, 3000)
	checkCount(t, 2, []motif.Tap{{Weight: 0, Delay: 1}}, 1, []api.Event{ev(0, 0), ev(9, 0), ev(9, 1)}, 60)
}

// P9.7: a pattern is found exactly where enough of its marks are, also where it began before the tick 0.
func TestP9_7Pattern(t *testing.T) {
	var g generator = 33
	found, early, silent := 0, 0, 0
	for range 400 {
		inputs := g.from(1, 5)
		marks := g.marks(inputs, 8)
		miss := g.below(len(marks))
		var in []api.Event
		for tick := range 50 {
			for id := range inputs {
				if g.below(3) == 0 {
					in = append(in, ev(tick, id))
				}
			}
		}
		var want []api.Event
		for tick := -16; tick+16 < 80; tick++ {
			hits := 0
			for _, x := range marks {
				if slices.Contains(in, ev(tick+x.Offset, x.Input)) {
					hits++
				}
			}
			if hits >= len(marks)-miss {
				want = append(want, ev(tick+16, 0))
			}
		}
		made, e := motif.Pattern(inputs, marks, miss)
		if l := runs(t, made, e, in, 80); !slices.Equal(l, want) {
			t.Fatalf("%v, missed %d, events %v: %v, want %v", marks, miss, in, l, want)
		}
		found += len(want)
		if len(want) > 0 && want[0].Tick < 16 {
			early++
		}
		if len(want) == 0 {
			silent++
		}
	}
	if found < 1000 || early < 50 || silent < 20 {
		t.Errorf("%d found, %d times early, %d times none", found, early, silent)
	}
}

// motifs makes a network of any kind.
func (g *generator) motif() (api.Net, api.Errno) {
	n := g.from(1, 6)
	switch g.below(7) {
	case 0:
		return motif.Paths(n, g.graph(n, 12), g.below(n))
	case 1:
		return motif.Sort(n)
	case 2:
		return motif.Machine(g.auto(n, g.from(1, 3)))
	case 3:
		return motif.Horn(n, g.clauses(n, 8, min(n, 3)))
	case 4:
		return motif.Memory(n, g.from(1, 6), g.pairs(n, 1, 2))
	case 5:
		return motif.Count(n, g.taps(n, 6, 9), g.from(1, 9))
	}
	return motif.Pattern(n, g.marks(n, 6), 0)
}

// P9.7: all networks are valid, also the greatest ones.
func TestP9_7Valid(t *testing.T) {
	var g generator = 35
	valid := func(n api.Net, e api.Errno) {
		t.Helper()
		if e != api.OK || net.Check(n) != api.OK {
			t.Errorf("%d; Check: %d", e, net.Check(n))
		}
	}
	for range 300 {
		valid(g.motif())
	}
	valid(motif.Paths(512, g.graph(512, 4096), 0))
	valid(motif.Paths(1, nil, 0))
	valid(motif.Sort(64))
	valid(motif.Machine(wide(32, 16)))
	valid(motif.Horn(256, g.clauses(256, 512, 12)))
	valid(motif.Horn(1, nil))
	valid(motif.Memory(64, 64, nil))
	valid(motif.Count(256, g.taps(256, 512, api.MaxWeight), api.MaxV))
	valid(motif.Count(1, nil, 1))
	valid(motif.Pattern(256, g.marks(256, 64), 0))
}

// P9.9: networks beside each other have the spikes that each of them has alone.
func TestP9_9Joined(t *testing.T) {
	var g generator = 37
	both := 0
	for range 300 {
		var parts []api.Net
		var all api.Net
		var in, want []api.Event
		for k := range g.from(2, 3) {
			n, e := g.motif()
			if e != api.OK {
				t.Fatal(e)
			}
			var own []api.Event
			for tick := range 20 {
				for id := range n.Inputs {
					if g.below(8) == 0 {
						own = append(own, ev(tick, id))
					}
				}
			}
			for _, x := range runs(t, n, e, own, 120) {
				want = append(want, ev(x.Tick, x.Id+len(all.Neurons)))
			}
			for _, x := range own {
				in = append(in, ev(x.Tick, x.Id+all.Inputs))
			}
			if k == 0 {
				all = n
			} else if all, e = net.Join(all, n); e != api.OK {
				t.Fatal(e)
			}
			parts = append(parts, n)
		}
		slices.SortFunc(want, byTick)
		if l := runs(t, all, api.OK, in, 120); !slices.Equal(l, want) {
			t.Fatalf("%v with %v: %v, want %v", parts, in, l, want)
		}
		if len(want) > 10 {
			both++
		}
	}
	if both < 150 {
		t.Errorf("%d with many spikes", both)
	}
}

// P9.9: two joined networks each do what their chapter says.
func TestP9_9Answers(t *testing.T) {
	a := motif.Auto{Next: [][]int{{0, 1}, {1, 0}}, Accept: []bool{false, true}}
	machine, _ := motif.Machine(a)
	sort, _ := motif.Sort(3)
	n, e := net.Join(machine, sort)
	in, _ := motif.Word(a, []int{1, 1, 0})
	in = append(in, ev(2, 3+1), ev(5, 3+0), ev(5, 3+2))
	var sorted, rest []api.Event
	for _, x := range runs(t, n, e, in, 20) {
		if x.Id >= 7 {
			sorted = append(sorted, ev(x.Tick, x.Id-7))
		} else {
			rest = append(rest, x)
		}
	}
	states, e := motif.States(a, rest)
	if e != api.OK || !slices.Equal(states, []int{0, 1, 0, 0}) || !slices.Equal(sorted, []api.Event{ev(3, 0), ev(6, 1), ev(6, 2)}) {
		t.Errorf("%v and %v, %d", states, sorted, e)
	}
}

// P0: no arguments make a function panic, and an error comes alone.
func TestP0AnyArguments(t *testing.T) {
	var g generator = 39
	some := func() int { return g.one(edges...) }
	ints := func() []int {
		var l []int
		for range g.below(5) {
			l = append(l, some())
		}
		return l
	}
	fine, faults := 0, 0
	note := func(e api.Errno, empty bool) {
		if e == api.OK {
			fine++
			return
		}
		faults++
		if !empty {
			t.Fatalf("a result beside the error %d", e)
		}
	}
	network := func(n api.Net, e api.Errno) { note(e, n.Neurons == nil && n.Synapses == nil && n.Inputs == 0) }
	list := func(l []int, e api.Errno) { note(e, l == nil) }
	for range 3000 {
		var l []motif.Edge
		var spikes []api.Event
		var taps []motif.Tap
		var marks []motif.Mark
		for range g.below(4) {
			l = append(l, motif.Edge{From: some(), To: some(), Length: some()})
			spikes = append(spikes, ev(some(), some()))
			taps = append(taps, motif.Tap{Input: some(), Weight: some(), Delay: some()})
			marks = append(marks, motif.Mark{Input: some(), Offset: some()})
		}
		n := some()
		network(motif.Paths(n, l, some()))
		list(motif.Distances(n, spikes))
		list(motif.Before(n, l, ints()))
		network(motif.Sort(n))
		a := motif.Auto{Next: [][]int{ints(), ints()}[:g.below(3)], Start: some(), Accept: make([]bool, g.below(3))}
		network(motif.Machine(a))
		word, e := motif.Word(a, ints())
		note(e, word == nil)
		list(motif.States(a, spikes))
		list(motif.States(wide(2, 2), spikes))
		network(motif.Horn(n, []motif.Clause{{If: ints(), Then: some()}, {If: ints(), Then: some()}}[:g.below(3)]))
		network(motif.Memory(n, some(), []motif.Pair{{In: ints(), Out: ints()}, {In: ints(), Out: ints()}}[:g.below(3)]))
		network(motif.Count(n, taps, some()))
		network(motif.Pattern(n, marks, some()))
	}
	if fine < 3000 || faults < 10000 {
		t.Errorf("%d calls without an error, %d with one", fine, faults)
	}
}
