package neuron_test

import (
	"math"
	"slices"
	"testing"

	"ganglion/api"
	"ganglion/neuron"
)

// tick is Tick of what is known to be valid.
func tick(t *testing.T, p api.Params, s api.State, input int) (api.State, bool) {
	t.Helper()
	after, spike, e := neuron.Tick(p, s, input)
	if e != api.OK {
		t.Fatalf("Tick(%v, %v, %d): the error %d", p, s, input, e)
	}
	return after, spike
}

// P1.2: the examples of Tick, and what happens at the threshold, at the bounds, in rest and with either reset.
func TestP1_2Tick(t *testing.T) {
	sub := api.Params{Thresh: 5, ResetKind: api.ResetSub, Rest: 2}
	to := api.Params{Thresh: 5, Reset: -3, Floor: -4}
	top := api.Params{Thresh: api.MaxV, Bias: 1}
	for _, x := range []struct {
		p     api.Params
		s     api.State
		input int
		want  api.State
		spike bool
	}{
		{neuronA, api.State{}, 3, api.State{V: 3}, false}, {neuronA, api.State{V: 3}, 3, api.State{Rest: 1}, true}, {neuronA, api.State{Rest: 1}, 9, api.State{}, false},
		{neuronA, api.State{}, -9, api.State{V: -4}, false}, {neuronA, api.State{}, 1 << 60, api.State{Rest: 1}, true},
		{neuronA, api.State{}, -4, api.State{V: -4}, false}, {neuronA, api.State{}, -3, api.State{V: -3}, false}, {neuronA, api.State{V: -4}, 0, api.State{V: -3}, false},
		{neuronA, api.State{}, 4, api.State{V: 4}, false}, {neuronA, api.State{}, 5, api.State{Rest: 1}, true},
		{neuronA, api.State{V: 3, Rest: 1}, 9, api.State{V: 3}, false}, {neuronA, api.State{V: 9, Rest: 1}, 0, api.State{V: 9}, false}, {neuronA, api.State{V: 9}, 0, api.State{Rest: 1}, true},
		{neuronA, api.State{V: 5}, 0, api.State{V: 4}, false},
		{sub, api.State{V: 3}, 9, api.State{V: 7, Rest: 2}, true}, {sub, api.State{V: 7, Rest: 2}, 9, api.State{V: 7, Rest: 1}, false}, {sub, api.State{V: 7}, 0, api.State{V: 2, Rest: 2}, true}, {sub, api.State{V: 5}, 0, api.State{Rest: 2}, true},
		{to, api.State{}, 5, api.State{V: -3}, true}, {to, api.State{}, 500, api.State{V: -3}, true},
		{top, api.State{}, math.MaxInt, api.State{}, true}, {top, api.State{V: api.MaxV - 2}, 0, api.State{V: api.MaxV - 1}, false}, {top, api.State{V: api.MaxV - 1}, 0, api.State{}, true},
		{sub, api.State{V: 9}, math.MaxInt, api.State{V: api.MaxV - 5, Rest: 2}, true}, {neuronA, api.State{V: api.MaxV}, math.MinInt, api.State{V: -4}, false},
	} {
		if s, spike := tick(t, x.p, x.s, x.input); s != x.want || spike != x.spike {
			t.Errorf("Tick(%v, %v, %d): %v, %v, want %v, %v", x.p, x.s, x.input, s, spike, x.want, x.spike)
		}
	}
}

// P1.2: the sums are those of the integers, also for the greatest numbers of all.
func TestP1_2TickAsTheModel(t *testing.T) {
	var g generator = 11
	var great []int
	for _, x := range []int{0, api.MaxV, 2 * api.MaxV, 3 * api.MaxV, 4 * api.MaxV, 1 << 32, 1 << 62, math.MaxInt} {
		for d := -2; d <= 0; d++ {
			great = append(great, x+d, -x-d)
		}
	}
	great = append(great, math.MinInt)
	for _, size := range []int{8, 1000, api.MaxV} {
		for range 3000 {
			p := g.params(size)
			s := g.state(p)
			for _, x := range append(g.inputs(3, size), great[g.below(len(great))]) {
				after, spike := tick(t, p, s, x)
				if want, w := tickModel(p, s, x); after != want || spike != w {
					t.Fatalf("Tick(%v, %v, %d): %v, %v, want %v, %v", p, s, x, after, spike, want, w)
				}
				s = after
			}
		}
	}
	for _, bias := range []int{-api.MaxV, 0, api.MaxV} {
		for _, v := range []int{-api.MaxV, 0, api.MaxV} {
			p := api.Params{Bias: bias, Thresh: api.MaxV, Floor: -api.MaxV, ResetKind: api.ResetSub}
			for _, x := range great {
				after, spike := tick(t, p, api.State{V: v}, x)
				if want, w := tickModel(p, api.State{V: v}, x); after != want || spike != w {
					t.Errorf("Tick(%v, %d, %d): %v, %v, want %v, %v", p, v, x, after, spike, want, w)
				}
			}
		}
	}
}

// P1.2: Run.
func TestP1_2Run(t *testing.T) {
	inputs := []int{3, 3, 9, 4, 2, 2, 7}
	l, s, e := neuron.Run(neuronA, api.State{}, inputs)
	if !slices.Equal(l, []int{1, 4, 6}) || s != (api.State{Rest: 1}) || e != api.OK {
		t.Errorf("Run of the example: %v, %v, %d", l, s, e)
	}
	if !slices.Equal(inputs, []int{3, 3, 9, 4, 2, 2, 7}) {
		t.Errorf("Run changed its argument: %v", inputs)
	}
	for _, none := range [][]int{nil, {}} {
		if l, s, e := neuron.Run(neuronA, api.State{V: 7, Rest: 1}, none); len(l) != 0 || s != (api.State{V: 7, Rest: 1}) || e != api.OK {
			t.Errorf("Run of nothing: %v, %v, %d", l, s, e)
		}
	}
	var g generator = 13
	for range 500 {
		p := g.params(40)
		s, inputs := g.state(p), g.inputs(g.below(60), 40)
		l, after, e := neuron.Run(p, s, inputs)
		if want, w := runModel(p, s, inputs); !slices.Equal(l, want) || after != w || e != api.OK {
			t.Fatalf("Run(%v, %v, %v): %v, %v, %d, want %v, %v", p, s, inputs, l, after, e, want, w)
		}
	}
}

// P1.2: at most MaxTicks inputs.
func TestP1_2RunMany(t *testing.T) {
	inputs := make([]int, api.MaxTicks+1)
	inputs[api.MaxTicks-1] = 5
	l, _, e := neuron.Run(neuronA, api.State{}, inputs[:api.MaxTicks])
	if !slices.Equal(l, []int{api.MaxTicks - 1}) || e != api.OK {
		t.Errorf("Run of MaxTicks inputs: %v, %d", l, e)
	}
	if l, s, e := neuron.Run(neuronA, api.State{V: 1}, inputs); len(l) != 0 || s != (api.State{}) || e != api.ErrMany {
		t.Errorf("Run of more than MaxTicks inputs: %v, %v, %d", l, s, e)
	}
}

// P1.3: Silent.
func TestP1_3Silent(t *testing.T) {
	l, s, e := neuron.Silent(neuronB, api.State{}, 10)
	if !slices.Equal(l, []int{2, 5, 9}) || s != (api.State{V: 1, Rest: 1}) || e != api.OK {
		t.Errorf("Silent of the example: %v, %v, %d", l, s, e)
	}
	for _, n := range []int{-1, api.MaxTicks + 1, math.MaxInt, math.MinInt} {
		if l, s, e := neuron.Silent(neuronB, api.State{V: 1}, n); len(l) != 0 || s != (api.State{}) || e != api.ErrRange {
			t.Errorf("Silent of %d ticks: %v, %v, %d", n, l, s, e)
		}
	}
	var g generator = 17
	for i := range 500 {
		p := g.params(40)
		s, n := g.state(p), g.below(100)
		if i < 2 {
			n = i * api.MaxTicks
		}
		l, after, e := neuron.Silent(p, s, n)
		want, w, f := neuron.Run(p, s, make([]int, n))
		if !slices.Equal(l, want) || after != w || e != f || e != api.OK {
			t.Fatalf("Silent(%v, %v, %d): %v, %v, %d, want %v, %v", p, s, n, l, after, e, want, w)
		}
	}
}

// P1.3: Next, for the examples, and for neurons that take long, or never get there.
func TestP1_3Next(t *testing.T) {
	const m = api.MaxV
	share := func(bias int) api.Params {
		return api.Params{LeakKind: api.LeakShare, Leak: 64, Bias: bias, Thresh: 400}
	}
	line := func(bias int) api.Params {
		return api.Params{LeakKind: api.LeakLine, Leak: 2, Bias: bias, Thresh: 5}
	}
	slow := api.Params{Bias: 1, Thresh: m, Floor: -m, Rest: 64}
	for _, x := range []struct {
		p    api.Params
		s    api.State
		want int
	}{
		{neuronA, api.State{V: 4}, -1}, {neuronB, api.State{}, 2}, {neuronB, api.State{V: 4, Rest: 1}, 1},
		{neuronA, api.State{V: 6}, 0}, {neuronA, api.State{V: 5}, -1}, {neuronA, api.State{V: 6, Rest: 1}, 1}, {neuronA, api.State{Rest: 1}, -1}, {neuronA, api.State{V: -4}, -1},
		{slow, api.State{}, m - 1}, {slow, api.State{V: -m}, 2*m - 1}, {slow, api.State{V: -m, Rest: 64}, 2*m - 1 + 64},
		{line(2), api.State{}, -1}, {line(3), api.State{}, 2}, {line(2), api.State{V: 4}, -1}, {line(2), api.State{V: 5}, 0}, {line(-3), api.State{V: 9}, -1},
		{share(99), api.State{}, -1}, {share(100), api.State{}, 18}, {share(101), api.State{}, 14},
		{api.Params{Bias: -1, Thresh: 9, Floor: -m}, api.State{}, -1}, {api.Params{Bias: -1, Thresh: 9, Floor: -m}, api.State{V: m}, 0},
		{api.Params{Thresh: 9}, api.State{V: 8}, -1}, {api.Params{Thresh: 9}, api.State{V: 9}, 0},
	} {
		if n, e := neuron.Next(x.p, x.s); n != x.want || e != api.OK {
			t.Errorf("Next(%v, %v): %d, %d, want %d", x.p, x.s, n, e, x.want)
		}
	}
}

// P1.3: Next of small neurons, against so many ticks that each of their potentials has come.
func TestP1_3NextAsTheModel(t *testing.T) {
	var g generator = 19
	for range 3000 {
		p := g.params(30)
		s := g.state(p)
		want := -1
		if l, _ := runModel(p, s, make([]int, 200)); len(l) > 0 {
			want = l[0]
		}
		if n, e := neuron.Next(p, s); n != want || e != api.OK {
			t.Fatalf("Next(%v, %v): %d, %d, want %d", p, s, n, e, want)
		}
	}
}

// P1.4: Cycle, for the examples, and around MaxPeriod.
func TestP1_4Cycle(t *testing.T) {
	far := api.Params{LeakKind: api.LeakLine, Leak: 1, Thresh: api.MaxV}
	sub := api.Params{Thresh: 7, ResetKind: api.ResetSub}
	for _, x := range []struct {
		p                     api.Params
		s                     api.State
		input                 int
		start, period, spikes int
		e                     api.Errno
	}{
		{neuronA, api.State{}, 2, 0, 5, 1, api.OK}, {neuronA, api.State{}, 6, 0, 2, 1, api.OK}, {neuronA, api.State{V: 3}, 0, 3, 1, 0, api.OK},
		{neuronA, api.State{}, math.MaxInt, 0, 2, 1, api.OK}, {neuronA, api.State{}, math.MinInt, 1, 1, 0, api.OK},
		{sub, api.State{}, 3, 0, 7, 3, api.OK}, {sub, api.State{}, 7, 0, 1, 1, api.OK}, {sub, api.State{}, 9, 0, 0, 0, api.ErrLong},
		// a start of 1, and a spike in it that is none of the period
		{neuronA, api.State{V: 6}, 0, 2, 1, 0, api.OK},
		{api.Params{Thresh: neuron.MaxPeriod}, api.State{}, 1, 0, neuron.MaxPeriod, 1, api.OK}, {api.Params{Thresh: neuron.MaxPeriod + 1}, api.State{}, 1, 0, 0, 0, api.ErrLong},
		{far, api.State{V: neuron.MaxPeriod - 1}, 0, neuron.MaxPeriod - 1, 1, 0, api.OK}, {far, api.State{V: neuron.MaxPeriod}, 0, 0, 0, 0, api.ErrLong},
	} {
		start, period, spikes, e := neuron.Cycle(x.p, x.s, x.input)
		if start != x.start || period != x.period || spikes != x.spikes || e != x.e {
			t.Errorf("Cycle(%v, %v, %d): %d, %d, %d, %d, want %d, %d, %d, %d", x.p, x.s, x.input, start, period, spikes, e, x.start, x.period, x.spikes, x.e)
		}
	}
}

// P1.4: Cycle of small neurons, against the comparison of all pairs of states.
func TestP1_4CycleAsTheModel(t *testing.T) {
	var g generator = 23
	for range 2000 {
		p := g.params(30)
		s, x := g.state(p), g.from(-10, p.Thresh-p.Bias) // more than the threshold in each tick would go up to MaxV
		start, period, spikes, e := neuron.Cycle(p, s, x)
		a, b, c := cycleModel(p, s, x)
		if start != a || period != b || spikes != c || e != api.OK {
			t.Fatalf("Cycle(%v, %v, %d): %d, %d, %d, %d, want %d, %d, %d", p, s, x, start, period, spikes, e, a, b, c)
		}
	}
}
