package code_test

import (
	"cmp"
	"fmt"
	"reflect"
	"slices"
	"testing"

	"ganglion/api"
	"ganglion/code"
)

// Models of the functions, which follow the chapter word by word, or compute the same in another way.

// modelRate adds the value in each tick, and takes most away for each spike.
func modelRate(v, most, ticks int) []int {
	var l []int
	sum := 0
	for t := range ticks {
		if sum += v; sum >= most {
			l, sum = append(l, t), sum-most
		}
	}
	return l
}

// modelUnrate tries each value.
func modelUnrate(count, most, ticks, lost int) (lo, hi int, e api.Errno) {
	var fit []int
	for v := range most + 1 {
		if n := len(modelRate(v, most, ticks)); count <= n && n <= count+lost {
			fit = append(fit, v)
		}
	}
	if fit == nil {
		return 0, 0, api.ErrNone
	}
	return fit[0], fit[len(fit)-1], api.OK
}

// modelOrder counts for each value how many come before it.
func modelOrder(values []int, gap int) []api.Event {
	var l []api.Event
	for r := range values {
		for i, v := range values {
			k := 0
			for j, w := range values {
				if w > v || w == v && j < i {
					k++
				}
			}
			if k == r {
				l = append(l, ev(r*gap, i))
			}
		}
	}
	return l
}

// modelUnorder takes the events by their ticks, and passes over numbers that it has already.
func modelUnorder(n int, l []api.Event) []int {
	l = slices.Clone(l)
	slices.SortFunc(l, byTick)
	var out []int
	for _, x := range l {
		if 0 <= x.Id && x.Id < n && !slices.Contains(out, x.Id) {
			out = append(out, x.Id)
		}
	}
	return out
}

// byTick is the order of events.
func byTick(a, b api.Event) int { return cmp.Or(cmp.Compare(a.Tick, b.Tick), cmp.Compare(a.Id, b.Id)) }

// modelUnphase looks for the slot of each tick among those of its period.
func modelUnphase(ticks []int, kinds, jitter int) ([]int, api.Errno) {
	var l []int
	for i, t := range ticks {
		if t < 0 {
			return nil, api.ErrRange
		}
		found := -1
		for v := range kinds {
			if begin := i*kinds*(2*jitter+1) + v*(2*jitter+1); begin <= t && t <= begin+2*jitter {
				found = v
			}
		}
		if found < 0 {
			return nil, api.ErrNone
		}
		l = append(l, found)
	}
	return l, api.OK
}

// lines are the synapses of a model, all with the Delay 1, as the chapter writes them.
type lines []string

func (l *lines) add(form string, x ...any) { *l = append(*l, fmt.Sprintf(form, x...)) }

// same checks a network against its neurons, inputs and synapses.
func same(t *testing.T, what string, n api.Net, e api.Errno, neurons []api.Params, inputs int, l lines) {
	t.Helper()
	var have lines
	for _, s := range n.Synapses {
		if s.From < 0 {
			have.add("#%d > %d %d/%d", -1-s.From, s.To, s.Weight, s.Delay)
		} else {
			have.add("%d > %d %d/%d", s.From, s.To, s.Weight, s.Delay)
		}
	}
	if e != api.OK || !slices.Equal(n.Neurons, neurons) || n.Inputs != inputs || !slices.Equal(have, l) {
		t.Fatalf("%s: %v, %d inputs, %v, %d, want %v, %d inputs, %v", what, n.Neurons, n.Inputs, have, e, neurons, inputs, l)
	}
}

// network makes a threshold network: weights around 0, and thresholds that can be met.
func (g *generator) network(inputs, layers, units, most int) []code.Layer {
	var l []code.Layer
	before := inputs
	for range layers {
		var x code.Layer
		for range g.from(1, units) {
			x.Weights = append(x.Weights, g.numbers(before, -most, most))
			x.Thresh = append(x.Thresh, g.from(max(-most, 1-api.MaxWeight), most+1))
		}
		l, before = append(l, x), len(x.Weights)
	}
	return l
}

// modelDecide asks each unit of a layer, from the inputs on.
func modelDecide(l []code.Layer, x []bool) []bool {
	for _, y := range l {
		var next []bool
		for i, row := range y.Weights {
			sum := 0
			for k, w := range row {
				if x[k] {
					sum += w
				}
			}
			next = append(next, sum >= y.Thresh[i])
		}
		x = next
	}
	return x
}

// modelConvert has the neurons, the inputs and the synapses of a converted network.
func modelConvert(inputs int, l []code.Layer) ([]api.Params, int, lines) {
	var neurons []api.Params
	gate := api.Params{LeakKind: api.LeakShare, Leak: 256, Thresh: 1, ResetKind: api.ResetTo, Reset: 0, Floor: 0}
	for _, y := range l {
		for range y.Weights {
			neurons = append(neurons, gate)
		}
	}
	firstClock := len(neurons)
	for range l[1:] {
		neurons = append(neurons, gate)
	}
	var out lines
	to, before := 0, 0
	for k, y := range l {
		begin := to
		for i, row := range y.Weights {
			for j, w := range row {
				if k == 0 {
					out.add("#%d > %d %d/1", j, to, w)
				} else {
					out.add("%d > %d %d/1", before+j, to, w)
				}
			}
			if k == 0 {
				out.add("#%d > %d %d/1", inputs, to, 1-y.Thresh[i])
			} else {
				out.add("%d > %d %d/1", firstClock+k-1, to, 1-y.Thresh[i])
			}
			to++
		}
		before = begin
	}
	for k := firstClock; k < len(neurons); k++ {
		if k == firstClock {
			out.add("#%d > %d 1/1", inputs, k)
		} else {
			out.add("%d > %d 1/1", k-1, k)
		}
	}
	return neurons, inputs + 1, out
}

// counting makes a counting network that is as stated for its greatest count.
func (g *generator) counting(inputs, layers, units, most int) [][]code.Unit {
	var l [][]code.Unit
	before := inputs
	for range layers {
		var x []code.Unit
		for range g.from(1, units) {
			w := g.numbers(before, -4, 5)
			if g.below(4) == 0 { // up to the greatest sum
				k := (code.MaxSum / most) / before
				w = g.numbers(before, -k, k)
			}
			rest := code.MaxSum
			for _, y := range w {
				rest -= most * max(y, -y)
			}
			near := min(rest, 5*most)
			x = append(x, code.Unit{Weights: w, Bias: g.one(g.from(-near, near), g.from(-near, near), -rest, rest), Thresh: g.one(1, 2, 3, g.from(1, 9), g.from(1, code.MaxSum))})
		}
		l, before = append(l, x), len(x)
	}
	return l
}

// modelLevel divides by subtracting, up to the greatest count.
func modelLevel(l [][]code.Unit, most int, x []int) []int {
	for _, y := range l {
		var next []int
		for _, u := range y {
			sum, count := u.Bias, 0
			for k, w := range u.Weights {
				sum += w * x[k]
			}
			for count < most && sum >= u.Thresh {
				sum, count = sum-u.Thresh, count+1
			}
			next = append(next, count)
		}
		x = next
	}
	return x
}

// modelFrame has the neurons, the inputs and the synapses of a counting network.
func modelFrame(inputs int, l [][]code.Unit) ([]api.Params, int, lines) {
	var neurons []api.Params
	var out lines
	begins := []int{0}
	for k, y := range l {
		for _, u := range y {
			to := len(neurons)
			neurons = append(neurons, api.Params{LeakKind: api.LeakNone, Thresh: u.Thresh, ResetKind: api.ResetSub, Floor: -api.MaxV})
			for j, w := range u.Weights {
				if k == 0 {
					out.add("#%d > %d %d/1", j, to, w)
				} else {
					out.add("%d > %d %d/1", begins[k-1]+j, to, w)
				}
			}
			out.add("#%d > %d -32768/1", inputs, to)
			out.add("#%d > %d 32768/1", inputs+1+2*k, to)
			out.add("#%d > %d %d/1", inputs+1+2*k, to, u.Bias)
			out.add("#%d > %d -32768/1", inputs+2+2*k, to)
		}
		begins = append(begins, len(neurons))
	}
	return neurons, inputs + 1 + 2*len(l), out
}

// modelFrames lists the events in the order of the chapter, and sorts them.
func modelFrames(layers, most int, x []int) []api.Event {
	l := []api.Event{ev(0, len(x))}
	for i, count := range x {
		for t := 1; t <= count; t++ {
			l = append(l, ev(t, i))
		}
	}
	for k := range layers {
		l = append(l, ev((k+1)*(most+1), len(x)+1+2*k), ev((k+1)*(most+1)+most, len(x)+2+2*k))
	}
	slices.SortFunc(l, byTick)
	return l
}

// modelTrain keeps the bias as one more weight, of a feature that is always 1, and turns around what should not be.
func modelTrain(l []code.Sample, margin, rounds int) code.Trained {
	n := len(l[0].X)
	w := make([]int, n+1)
	updates, done := 0, false
	for range rounds {
		again := false
		for _, x := range l {
			features := append(slices.Clone(x.X), 1)
			if !x.Yes {
				for i := range features {
					features[i] = -features[i]
				}
			}
			s := 0
			for i, f := range features {
				s += w[i] * f
			}
			if s <= margin {
				for i, f := range features {
					w[i] += f
				}
				updates, again = updates+1, true
			}
		}
		if !again {
			done = true
			break
		}
	}
	return code.Trained{Weights: w[:n], Bias: w[n], Updates: updates, Done: done}
}

// samples are n samples with some features, that can be on any side.
func (g *generator) samples(n, features, most int) []code.Sample {
	var l []code.Sample
	for range n {
		l = append(l, code.Sample{X: g.numbers(features, -most, most), Yes: g.below(2) == 0})
	}
	return l
}

// P10.1: rates as in the models, for all small numbers and some great ones.
func TestP10_1Model(t *testing.T) {
	check := func(v, most, ticks int) {
		t.Helper()
		if l, e := code.Rate(v, most, ticks); e != api.OK || !slices.Equal(l, modelRate(v, most, ticks)) {
			t.Fatalf("Rate(%d, %d, %d): %v, %d", v, most, ticks, l, e)
		}
	}
	back := func(count, most, ticks, lost int) {
		t.Helper()
		lo, hi, e := code.Unrate(count, most, ticks, lost)
		if wantLo, wantHi, want := modelUnrate(count, most, ticks, lost); lo != wantLo || hi != wantHi || e != want {
			t.Fatalf("Unrate(%d, %d, %d, %d): %d, %d, %d, want %d, %d, %d", count, most, ticks, lost, lo, hi, e, wantLo, wantHi, want)
		}
	}
	for most := 1; most <= 12; most++ {
		for ticks := 1; ticks <= 14; ticks++ {
			for v := range most + 1 {
				check(v, most, ticks)
			}
			for count := range ticks + 1 {
				for lost := range 5 {
					back(count, most, ticks, lost)
				}
			}
		}
	}
	var g generator = 1
	for range 60 {
		most, ticks := g.from(1, 1024), g.one(g.from(1, 4096), g.from(1, 100))
		check(g.from(0, most), most, ticks)
		back(g.from(0, ticks), most, ticks, g.one(0, 1, 100))
	}
	check(1023, 1024, 4096)
	back(4000, 1024, 4096, 3)
}

// P10.2: orders as in the models.
func TestP10_2Model(t *testing.T) {
	var g generator = 3
	for range 500 {
		values, gap := g.numbers(g.one(1, 2, g.from(1, 12), 64), -5, g.one(-5, 5, 1000)), g.from(1, 100)
		if l, e := code.Order(values, gap); e != api.OK || !slices.Equal(l, modelOrder(values, gap)) {
			t.Fatalf("Order(%v, %d): %v, %d", values, gap, l, e)
		}
		var l []api.Event
		n := g.one(1, g.from(1, 9), 64)
		for range g.below(30) {
			l = append(l, ev(g.from(-3, 8), g.from(-2, n+1)))
		}
		if out, e := code.Unorder(n, l); e != api.OK || !slices.Equal(out, modelUnorder(n, l)) {
			t.Fatalf("Unorder(%d, %v): %v, %d", n, l, out, e)
		}
	}
}

// P10.3: phases as in the models.
func TestP10_3Model(t *testing.T) {
	var g generator = 5
	bad := 0
	for range 1000 {
		kinds, jitter := g.one(1, 2, g.from(1, 256)), g.one(0, 1, g.from(0, 100))
		values := g.numbers(g.below(12), 0, kinds-1)
		ticks, e := code.Phase(values, kinds, jitter)
		slot := 2*jitter + 1
		for i, v := range values {
			if e != api.OK || len(ticks) != len(values) || ticks[i] != i*kinds*slot+v*slot+jitter {
				t.Fatalf("Phase(%v, %d, %d): %v, %d", values, kinds, jitter, ticks, e)
			}
		}
		for i := range ticks {
			ticks[i] += g.one(0, jitter, -jitter, g.from(-jitter-1, jitter+1))
		}
		l, e := code.Unphase(ticks, kinds, jitter)
		want, wantE := modelUnphase(ticks, kinds, jitter)
		if !slices.Equal(l, want) || e != wantE {
			t.Fatalf("Unphase(%v, %d, %d): %v, %d, want %v, %d", ticks, kinds, jitter, l, e, want, wantE)
		}
		if e != api.OK {
			bad++
		}
	}
	if bad < 50 {
		t.Errorf("%d with an error", bad)
	}
}

// P10.4: decisions and converted networks as in the models, also the greatest one.
func TestP10_4Model(t *testing.T) {
	var g generator = 7
	check := func(inputs int, l []code.Layer) (yes, all int) {
		t.Helper()
		n, e := code.Convert(inputs, l)
		neurons, in, want := modelConvert(inputs, l)
		same(t, fmt.Sprint("Convert of ", l), n, e, neurons, in, want)
		for range 8 {
			x := g.truths(inputs)
			says, e := code.Decide(l, x)
			if e != api.OK || !slices.Equal(says, modelDecide(l, x)) {
				t.Fatalf("Decide(%v, %v): %v, %d", l, x, says, e)
			}
			for _, y := range says {
				all++
				if y {
					yes++
				}
			}
		}
		return yes, all
	}
	yes, all := 0, 0
	for range 300 {
		inputs := g.from(1, 6)
		y, a := check(inputs, g.network(inputs, g.from(1, 8), 5, g.one(1, 3, 9, api.MaxWeight)))
		yes, all = yes+y, all+a
	}
	if yes < 1000 || all-yes < 1000 {
		t.Errorf("%d times true of %d", yes, all)
	}
	full := slices.Repeat([]code.Layer{layer(slices.Repeat([][]int{slices.Repeat([]int{api.MaxWeight}, 30)}, 30)...)}, 8)
	check(30, full)
	if n, e := code.Convert(30, full); e != api.OK || len(n.Neurons) != 247 || len(n.Synapses) != 7447 {
		t.Errorf("the greatest network: %d neurons, %d synapses, %d", len(n.Neurons), len(n.Synapses), e)
	}
}

// P10.5: counts, networks of counting units and their events as in the models, also the greatest ones.
func TestP10_5Model(t *testing.T) {
	var g generator = 9
	var seen [3]int
	check := func(inputs, most int, l [][]code.Unit) {
		t.Helper()
		n, e := code.Frame(inputs, l, most)
		neurons, in, want := modelFrame(inputs, l)
		same(t, fmt.Sprint("Frame of ", l), n, e, neurons, in, want)
		for range 8 {
			x := g.numbers(inputs, 0, most)
			counts, e := code.Level(l, most, x)
			if e != api.OK || !slices.Equal(counts, modelLevel(l, most, x)) {
				t.Fatalf("Level(%v, %d, %v): %v, %d", l, most, x, counts, e)
			}
			if in, e := code.Frames(len(l), most, x); e != api.OK || !slices.Equal(in, modelFrames(len(l), most, x)) {
				t.Fatalf("Frames(%d, %d, %v): %v, %d", len(l), most, x, in, e)
			}
			for _, y := range counts {
				seen[min(y, 1)+y/most]++
			}
		}
	}
	for range 300 {
		inputs, most := g.from(1, 6), g.one(2, 5, g.from(2, 64), 64)
		check(inputs, most, g.counting(inputs, g.from(1, 8), 5, most))
	}
	if slices.Min(seen[:]) < 300 {
		t.Errorf("counts 0, between, and the greatest: %v times", seen)
	}
	full := slices.Repeat([][]code.Unit{slices.Repeat([]code.Unit{unit(20, 7, slices.Repeat([]int{16}, 30)...)}, 30)}, 8)
	check(30, 64, full)
	if n, e := code.Frame(30, full, 64); e != api.OK || len(n.Neurons) != 240 || len(n.Synapses) != 8160 || n.Inputs != 47 {
		t.Errorf("the greatest network: %d neurons, %d synapses, %d inputs, %d", len(n.Neurons), len(n.Synapses), n.Inputs, e)
	}
}

// P10.6: what is learned is as in the model.
func TestP10_6Model(t *testing.T) {
	var g generator = 11
	done := 0
	check := func(l []code.Sample, margin, rounds int) {
		t.Helper()
		r, e := code.Train(l, margin, rounds)
		if e != api.OK || !reflect.DeepEqual(r, modelTrain(l, margin, rounds)) {
			t.Fatalf("Train(%v, %d, %d): %v, %d, want %v", l, margin, rounds, r, e, modelTrain(l, margin, rounds))
		}
		if r.Done {
			done++
		}
	}
	for range 400 {
		check(g.samples(g.from(1, 6), g.from(1, 5), g.one(1, 9, 1000)), g.one(0, 0, 5, 1000000), g.one(1, 2, 50))
	}
	if done < 100 || done > 300 {
		t.Errorf("%d times done", done)
	}
	check(g.samples(256, 30, 1000), 1000000, 1000)
	check(g.samples(256, 30, 1), 0, 1000)
}

// R3: a nil list is an empty one.
func TestR3Nil(t *testing.T) {
	for _, l := range [][]int{nil, {}} {
		out, e := code.Phase(l, 1, 0)
		out2, e2 := code.Unphase(l, 1, 0)
		if e != api.OK || e2 != api.OK || len(out) != 0 || len(out2) != 0 {
			t.Errorf("Phase and Unphase: %v, %d; %v, %d", out, e, out2, e2)
		}
		order, e := code.Order(l, 1)
		bad(t, "Order", order, e, api.ErrRange)
		counts, e := code.Level([][]code.Unit{{unit(1, 1)}}, 1, l)
		bad(t, "Level", counts, e, api.ErrRange)
		in, e := code.Frames(1, 1, l)
		bad(t, "Frames", in, e, api.ErrRange)
		n, e := code.Convert(1, []code.Layer{{Weights: [][]int{l}, Thresh: []int{0}}})
		badNet(t, "Convert", n, e, api.ErrShape)
		n, e = code.Frame(1, [][]code.Unit{{{Weights: l, Thresh: 1}}}, 1)
		badNet(t, "Frame", n, e, api.ErrShape)
		if r, e := code.Train([]code.Sample{{X: l}}, 0, 1); e != api.ErrRange || !reflect.DeepEqual(r, code.Trained{}) {
			t.Errorf("Train: %v, %d", r, e)
		}
	}
	for _, l := range [][]bool{nil, {}} {
		says, e := code.Decide([]code.Layer{layer(nil)}, l)
		bad(t, "Decide", says, e, api.ErrRange)
		in, e := code.Present(l, 0)
		bad(t, "Present", in, e, api.ErrRange)
	}
	for _, l := range [][]api.Event{nil, {}} {
		out, e := code.Unorder(1, l)
		bad(t, "Unorder", out, e, api.OK)
	}
	for _, l := range [][]code.Layer{nil, {}} {
		n, e := code.Convert(1, l)
		badNet(t, "Convert", n, e, api.ErrMany)
	}
	for _, l := range [][][]code.Unit{nil, {}} {
		n, e := code.Frame(1, l, 1)
		badNet(t, "Frame", n, e, api.ErrMany)
	}
	for _, l := range [][]code.Unit{nil, {}} {
		n, e := code.Frame(1, [][]code.Unit{l}, 1)
		badNet(t, "Frame", n, e, api.ErrRange)
	}
	for _, l := range [][]code.Sample{nil, {}} {
		if r, e := code.Train(l, 0, 1); e != api.ErrRange || !reflect.DeepEqual(r, code.Trained{}) {
			t.Errorf("Train: %v, %d", r, e)
		}
	}
}

// spoil changes everything in a result, also behind the ends of its lists.
func spoil(x any) {
	switch l := x.(type) {
	case []int:
		clear(l[:cap(l)])
	case []bool:
		l = l[:cap(l)]
		for i := range l {
			l[i] = !l[i]
		}
	case []api.Event:
		clear(l[:cap(l)])
	case api.Net:
		clear(l.Neurons[:cap(l.Neurons)])
		clear(l.Synapses[:cap(l.Synapses)])
	case code.Trained:
		clear(l.Weights[:cap(l.Weights)])
	}
}

// R4: no argument is changed, also behind its end, and a result shares no memory with an argument or with another result.
func TestR4Memory(t *testing.T) {
	var g generator = 13
	ints, truths, events := []int{2, 1, 3, 9, 9}, []bool{true, false, true, false, true}, []api.Event{ev(4, 1), ev(4, 0), ev(2, 2), ev(0, 0)}
	ticks := []int{2, 4, 11, 0, 0}
	layers, units, samples := g.network(3, 3, 4, 9), g.counting(3, 3, 4, 5), g.samples(6, 3, 9)
	args := func() string { return fmt.Sprint(ints, truths, events, ticks, layers, units, samples) }
	before := args()
	// What these say differs from what is behind the end of the list.
	yes := []code.Layer{{Weights: [][]int{{0, 0, 0}, {0, 0, 0}}, Thresh: []int{0, 1}}}
	for i, f := range []func() (any, api.Errno){
		func() (any, api.Errno) { return code.Rate(3, 4, 9) },
		func() (any, api.Errno) { return code.Order(ints[:3], 5) },
		func() (any, api.Errno) { return code.Unorder(3, events[:3]) },
		func() (any, api.Errno) { return code.Phase(ints[:3], 4, 0) },
		func() (any, api.Errno) { return code.Unphase(ticks[:3], 4, 0) },
		func() (any, api.Errno) { return code.Decide(layers, truths[:3]) },
		func() (any, api.Errno) { return code.Decide(yes, truths[:3]) },
		func() (any, api.Errno) { return code.Convert(3, layers) },
		func() (any, api.Errno) { return code.Present(truths[:3], 8) },
		func() (any, api.Errno) { return code.Level(units, 5, ints[:3]) },
		func() (any, api.Errno) { return code.Level(units[:1], 5, ints[:3]) },
		func() (any, api.Errno) { return code.Frame(3, units, 5) },
		func() (any, api.Errno) { return code.Frames(2, 5, ints[:3]) },
		func() (any, api.Errno) { return code.Train(samples, 5, 9) },
	} {
		first, _ := f()
		second, _ := f()
		spoil(first)
		third, e := f()
		if e != api.OK || !reflect.DeepEqual(second, third) || args() != before {
			t.Errorf("%d: %v and %v, %d", i, second, third, e)
		}
	}
}
