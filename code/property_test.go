package code_test

import (
	"reflect"
	"slices"
	"testing"

	"ganglion/api"
	"ganglion/code"
	"ganglion/net"
)

// runs returns the spikes of a network that was made without an error, by ticks, and the same by events.
func runs(t *testing.T, n api.Net, e api.Errno, in []api.Event, ticks int) []api.Event {
	t.Helper()
	if e != api.OK || net.Check(n) != api.OK {
		t.Fatalf("error %d; Check: %d", e, net.Check(n))
	}
	l, e := net.Run(n, in, ticks)
	if e != api.OK {
		t.Fatalf("Run: %d", e)
	}
	driven, e := net.Driven(n, in, ticks)
	if e != api.OK || !slices.Equal(driven, l) {
		t.Fatalf("Driven: %v, %d, want %v", driven, e, l)
	}
	return l
}

// P10.7: the spikes of a value, less those that are lost, enclose it.
func TestP10_7Enclosed(t *testing.T) {
	var g generator = 21
	wide, lone := 0, 0
	for range 3000 {
		most, ticks := g.one(1, 2, g.from(1, 30), g.from(1, 1024)), g.one(1, 2, g.from(1, 50), g.from(1, 4096))
		v := g.one(0, most, g.from(0, most))
		l, e := code.Rate(v, most, ticks)
		if e != api.OK {
			t.Fatal(e)
		}
		lost := g.one(0, 1, g.from(0, 40))
		count := max(len(l)-g.one(0, lost, g.from(0, lost)), 0)
		lo, hi, e := code.Unrate(count, most, ticks, lost)
		if e != api.OK || lo > v || v > hi || lo < 0 || hi > most {
			t.Fatalf("%d of %d in %d ticks, %d of %d spikes, at most %d lost: %d to %d, %d", v, most, ticks, count, len(l), lost, lo, hi, e)
		}
		if lo < hi {
			wide++
		} else {
			lone++
		}
	}
	if wide < 500 || lone < 500 {
		t.Errorf("%d with several values, %d with a single one", wide, lone)
	}
}

// checkWindows checks all ticks that follow one another.
func checkWindows(t *testing.T, v, most, ticks int) {
	t.Helper()
	l, e := code.Rate(v, most, ticks)
	if e != api.OK {
		t.Fatal(e)
	}
	before := make([]int, ticks+1) // how many spikes are before a tick
	for tick := range ticks {
		before[tick+1] = before[tick]
		if slices.Contains(l, tick) {
			before[tick+1]++
		}
	}
	for begin := range ticks + 1 {
		for end := begin; end <= ticks; end++ {
			if have, least := before[end]-before[begin], (end-begin)*v/most; have != least && have != least+1 {
				t.Fatalf("%d of %d in %d ticks: %d spikes from %d to %d", v, most, ticks, have, begin, end)
			}
		}
	}
}

// P10.7: spikes are spread evenly.
func TestP10_7Windows(t *testing.T) {
	for most := 1; most <= 9; most++ {
		for v := range most + 1 {
			checkWindows(t, v, most, 30)
		}
	}
	var g generator = 23
	for range 40 {
		most := g.from(1, 1024)
		checkWindows(t, g.from(0, most), most, g.from(1, 200))
	}
	checkWindows(t, 617, 1024, 1500)
}

// moved returns the events at other ticks, none further away than j, in any order.
func (g *generator) moved(l []api.Event, j int) []api.Event {
	var out []api.Event
	for _, x := range l {
		out = slices.Insert(out, g.from(0, len(out)), ev(x.Tick+g.one(-j, j, g.from(-j, j)), x.Id))
	}
	return out
}

// P10.8: orders are kept where events come at other ticks.
func TestP10_8Orders(t *testing.T) {
	var g generator = 25
	for range 1000 {
		n, gap := g.one(1, g.from(1, 9), 64), g.one(1, 2, 3, g.from(1, 100), 100)
		l, e := code.Order(g.numbers(n, 0, g.one(1, 9, 1000)), gap)
		want, f := code.Unorder(n, l)
		if e != api.OK || f != api.OK || len(want) != n {
			t.Fatalf("%v, %d; %v, %d", l, e, want, f)
		}
		for i, x := range l {
			if want[i] != x.Id {
				t.Fatalf("%v: %v", l, want)
			}
		}
		off := g.moved(l, (gap-1)/2)
		if out, e := code.Unorder(n, off); e != api.OK || !slices.Equal(out, want) {
			t.Fatalf("%v, gap %d, moved %v: %v, %d, want %v", l, gap, off, out, e, want)
		}
	}
}

// P10.8: values are kept where the ticks of phases change by at most the jitter.
func TestP10_8Phases(t *testing.T) {
	var g generator = 27
	for range 1000 {
		kinds, jitter := g.one(1, 2, g.from(1, 256), 256), g.one(0, 1, g.from(0, 100), 100)
		values := g.numbers(g.one(0, 1, g.from(1, 20)), 0, kinds-1)
		l, e := code.Phase(values, kinds, jitter)
		if e != api.OK {
			t.Fatal(e)
		}
		for i := range l {
			l[i] += g.one(-jitter, jitter, g.from(-jitter, jitter))
		}
		if out, e := code.Unphase(l, kinds, jitter); e != api.OK || !slices.Equal(out, values) {
			t.Fatalf("%v with %d kinds and the jitter %d: %v, %v, %d", values, kinds, jitter, l, out, e)
		}
	}
	values := g.numbers(4096, 0, 255)
	l, _ := code.Phase(values, 256, 100)
	if out, e := code.Unphase(l, 256, 100); e != api.OK || !slices.Equal(out, values) {
		t.Errorf("4096 values: %d", e)
	}
}

// said returns which of the last n of all units spike in a tick.
func said(spikes []api.Event, tick, units, n int) []bool {
	out := make([]bool, n)
	for i := range out {
		out[i] = slices.Contains(spikes, ev(tick, units-n+i))
	}
	return out
}

// present adds the events of Present in a tick.
func present(t *testing.T, in []api.Event, x []bool, tick int) []api.Event {
	t.Helper()
	l, e := code.Present(x, tick)
	if e != api.OK {
		t.Fatal(e)
	}
	return append(in, l...)
}

// checkDecisions presents inputs in ticks, with other events between them, and checks what the last layer says of them.
func checkDecisions(t *testing.T, g *generator, l []code.Layer, xs map[int][]bool, inputs, ticks int) (yes int) {
	t.Helper()
	var in []api.Event
	for tick := range ticks {
		if x := xs[tick]; x != nil {
			in = present(t, in, x, tick)
			continue
		}
		for id := range inputs + 1 {
			if g.below(4) == 0 {
				in = append(in, ev(tick, id))
			}
		}
	}
	n, e := code.Convert(inputs, l)
	spikes := runs(t, n, e, in, ticks+len(l))
	units := len(n.Neurons) - len(l) + 1
	for tick, x := range xs {
		want, e := code.Decide(l, x)
		if have := said(spikes, tick+len(l), units, len(want)); e != api.OK || !slices.Equal(have, want) {
			t.Fatalf("%v with %v in the tick %d: %v, want %v, %d", l, x, tick, have, want, e)
		}
		if slices.Contains(want, true) {
			yes++
		}
	}
	return yes
}

// P10.9: converted networks decide the same, whatever is presented before and behind.
func TestP10_9Decisions(t *testing.T) {
	var g generator = 29
	yes, all := 0, 0
	for range 250 {
		inputs := g.from(1, 7)
		l := g.network(inputs, g.from(1, 8), 5, g.one(1, 3, 9, api.MaxWeight))
		xs := map[int][]bool{}
		for tick := range 40 {
			if g.below(3) > 0 {
				xs[tick] = g.truths(inputs)
			}
		}
		yes, all = yes+checkDecisions(t, &g, l, xs, inputs, 40), all+len(xs)
	}
	if yes < 1000 || all-yes < 1000 {
		t.Errorf("%d times true of %d", yes, all)
	}
}

// P10.9: for all inputs of a network, in ticks that follow one another.
func TestP10_9AllInputs(t *testing.T) {
	var g generator = 31
	for range 60 {
		l := g.network(6, g.from(1, 4), 6, g.one(1, 2, 5))
		xs := map[int][]bool{}
		for v := range 64 {
			for i := range 6 {
				xs[v] = append(xs[v], v>>i&1 == 1)
			}
		}
		checkDecisions(t, &g, l, xs, 6, 64)
	}
}

// P10.9: the greatest weights and thresholds, the greatest network, and the last tick.
func TestP10_9Greatest(t *testing.T) {
	var g generator = 33
	all := slices.Repeat([]bool{true}, 30)
	for _, w := range []int{api.MaxWeight, -api.MaxWeight, 1} {
		for _, h := range []int{1 + api.MaxWeight, 1, 0, 1 - api.MaxWeight} {
			x := code.Layer{Weights: slices.Repeat([][]int{slices.Repeat([]int{w}, 30)}, 30), Thresh: slices.Repeat([]int{h}, 30)}
			checkDecisions(t, &g, slices.Repeat([]code.Layer{x}, 8), map[int][]bool{2: all, 3: make([]bool, 30), 5: g.truths(30), 9: all}, 30, 12)
		}
	}
	xor := []code.Layer{layer([]int{1, -1}, []int{-1, 1}), layer([]int{1, 1})}
	n, e := code.Convert(2, xor)
	if e != api.OK {
		t.Fatal(e)
	}
	in := present(t, present(t, nil, []bool{true, true}, 9998), []bool{false, true}, 9999)
	if out, e := net.Driven(n, in, 20000); e != api.OK || !slices.Contains(out, ev(10001, 2)) || slices.Contains(out, ev(10000, 2)) {
		t.Errorf("%v, %d", out, e)
	}
}

// checkCounts runs the neurons of a counting network and checks how often they spike, and when.
func checkCounts(t *testing.T, l [][]code.Unit, most int, x []int) (spikes int) {
	t.Helper()
	n, e := code.Frame(len(x), l, most)
	in, f := code.Frames(len(l), most, x)
	if f != api.OK {
		t.Fatal(f)
	}
	out := runs(t, n, e, in, (len(l)+3)*(most+1))
	unit := 0
	for k := range l {
		counts, e := code.Level(l[:k+1], most, x)
		if e != api.OK {
			t.Fatal(e)
		}
		begin, stop := (k+1)*(most+1)+1, (k+1)*(most+1)+most+1
		for _, want := range counts {
			have := 0
			for _, y := range out {
				if y.Id != unit {
					continue
				}
				if have++; y.Tick < begin || y.Tick >= stop {
					t.Fatalf("%v with %v, most %d: the spike %v of the layer %d", l, x, most, y, k)
				}
			}
			if have != want {
				t.Fatalf("%v with %v, most %d: the unit %d of the layer %d has %d spikes, want %d", l, x, most, unit, k, have, want)
			}
			unit++
		}
	}
	return len(out)
}

// P10.10: neurons spike as often as their units count.
func TestP10_10Counts(t *testing.T) {
	var g generator = 35
	spikes := 0
	for range 400 {
		inputs, most := g.from(1, 6), g.one(1, 2, 5, g.from(1, 64))
		l := g.counting(inputs, g.from(1, 5), 4, most)
		spikes += checkCounts(t, l, most, g.numbers(inputs, 0, most))
	}
	if spikes < 10000 {
		t.Errorf("%d spikes", spikes)
	}
}

// P10.10: the greatest sums, as well above as below 0, and the greatest network.
func TestP10_10Greatest(t *testing.T) {
	full, none := slices.Repeat([]int{64}, 30), make([]int, 30)
	rows := func(w, bias, thresh int) [][]code.Unit {
		return slices.Repeat([][]code.Unit{slices.Repeat([]code.Unit{unit(bias, thresh, slices.Repeat([]int{w}, 30)...)}, 30)}, 8)
	}
	for _, x := range [][]int{full, none, append(full[:15:15], none[:15]...)} {
		checkCounts(t, rows(16, 1280, 1), 64, x)
		checkCounts(t, rows(16, -1280, 1), 64, x)
		checkCounts(t, rows(-16, 1280, 9), 64, x)
		checkCounts(t, rows(-16, -1280, 1), 64, x)
		checkCounts(t, rows(16, 1280, 500), 64, x)
		checkCounts(t, rows(16, 1280, 32000), 64, x)
	}
	for _, w := range []int{32000, -32000} {
		for count := range 2 {
			checkCounts(t, [][]code.Unit{{unit(0, 1, w)}, {unit(0, 32000, w)}}, 1, []int{count})
			checkCounts(t, [][]code.Unit{{unit(w, 1, 0)}, {unit(0, 1, 32000)}}, 1, []int{count})
		}
	}
}

// side returns the sum of a bias and of weights times features, with the sign changed if Yes is false.
func side(w []int, b int, x code.Sample) int {
	s := b
	for i, f := range x.X {
		s += w[i] * f
	}
	if !x.Yes {
		return -s
	}
	return s
}

// square returns the sum of the squares.
func square(l []int) int {
	s := 0
	for _, x := range l {
		s += x * x
	}
	return s
}

// checkSides checks that each sample is on its side, if the learning is done.
func checkSides(t *testing.T, l []code.Sample, r code.Trained, margin int) {
	t.Helper()
	for _, x := range l {
		if r.Done && side(r.Weights, r.Bias, x) <= margin {
			t.Fatalf("%v is done, with the margin %d, but not for %v", r, margin, x)
		}
	}
}

// P10.11: what is done is done, whatever the samples are.
func TestP10_11Sides(t *testing.T) {
	var g generator = 37
	done := 0
	for range 500 {
		l, margin := g.samples(g.from(1, 8), g.from(1, 6), g.one(1, 9, 1000)), g.one(0, 1, 50, 1000000)
		r, e := code.Train(l, margin, g.one(1, 3, 100))
		if e != api.OK {
			t.Fatal(e)
		}
		checkSides(t, l, r, margin)
		if r.Done {
			done++
		}
	}
	if done < 100 {
		t.Errorf("%d times done", done)
	}
}

// P10.11: samples that some weights divide need no more updates than is stated, and are learned within so many rounds.
func TestP10_11Bound(t *testing.T) {
	var g generator = 39
	done, not, near := 0, 0, 0
	for range 2000 {
		n, most := g.from(1, 4), g.one(1, 3, 20, 1000)
		u, b := g.numbers(n, -5, 5), g.from(-9, 9)
		var l []code.Sample
		least, r := 1<<40, 0
		for range g.from(1, 40) {
			x := code.Sample{X: g.numbers(n, -most, most), Yes: true}
			x.Yes = side(u, b, x) > 0
			if s := side(u, b, x); s > 0 {
				l, least, r = append(l, x), min(least, s), max(r, 1+square(x.X))
			}
		}
		if l == nil {
			continue
		}
		margin, rounds := g.one(0, 0, 1, 30, 5000), g.one(1, 2, 1000)
		out, e := code.Train(l, margin, rounds)
		most = (r + 2*margin) * (square(u) + b*b)
		if e != api.OK || out.Updates*least*least > most {
			t.Fatalf("%v, margin %d, divided by %v and %d: %v, %d", l, margin, u, b, out, e)
		}
		checkSides(t, l, out, margin)
		if out.Done {
			done++
		} else if not++; rounds*least*least > most {
			t.Fatalf("%v, margin %d, divided by %v and %d: not done in %d rounds: %v", l, margin, u, b, rounds, out)
		}
		if 2*out.Updates*least*least > most {
			near++
		}
	}
	if done < 500 || not < 200 || near < 20 {
		t.Errorf("%d times done, %d times not, %d times near the bound", done, not, near)
	}
}

// P0: no arguments make a function panic, and an error comes alone.
func TestP0AnyArguments(t *testing.T) {
	var g generator = 41
	some := func() int { return g.one(edges...) }
	ints := func() []int {
		var l []int
		for range g.below(4) {
			l = append(l, g.one(some(), 0, 1, 2))
		}
		return l
	}
	fine, faults := 0, 0
	note := func(x any, e api.Errno) {
		t.Helper()
		if e == api.OK {
			fine++
			return
		}
		faults++
		if e < api.OK || e > api.ErrDiff || !reflect.ValueOf(x).IsZero() {
			t.Fatalf("%v beside the error %d", x, e)
		}
	}
	for range 4000 {
		// small numbers, so that some calls return no error
		small := func() int { return g.one(some(), g.from(0, 3), g.from(0, 3)) }
		l, e := code.Rate(small(), small(), small())
		note(l, e)
		lo, hi, e := code.Unrate(small(), small(), small(), small())
		note([2]int{lo, hi}, e)
		events, e := code.Order(ints(), small())
		note(events, e)
		l, e = code.Unorder(small(), []api.Event{ev(some(), some()), ev(some(), small()), ev(some(), small())}[:g.below(4)])
		note(l, e)
		l, e = code.Phase(ints(), small(), small())
		note(l, e)
		l, e = code.Unphase(ints(), small(), small())
		note(l, e)
		layers := []code.Layer{{Weights: [][]int{ints(), ints()}[:g.below(3)], Thresh: ints()}, {Weights: [][]int{ints()}, Thresh: ints()}}[:g.below(3)]
		says, e := code.Decide(layers, g.truths(g.below(4)))
		note(says, e)
		n, e := code.Convert(small(), layers)
		note(n, e)
		events, e = code.Present(g.truths(g.below(33)), small())
		note(events, e)
		first := []code.Unit{unit(small(), small(), ints()...), unit(small(), small(), ints()...)}[:g.below(3)]
		units := [][]code.Unit{first, {unit(small(), small(), ints()...)}}[:g.below(3)]
		l, e = code.Level(units, small(), ints())
		note(l, e)
		n, e = code.Frame(small(), units, small())
		note(n, e)
		events, e = code.Frames(small(), small(), ints())
		note(events, e)
		r, e := code.Train([]code.Sample{sample(true, ints()...), sample(false, ints()...)}[:g.below(3)], small(), small())
		note(r, e)
	}
	if fine < 5000 || faults < 20000 {
		t.Errorf("%d calls without an error, %d with one", fine, faults)
	}
}
