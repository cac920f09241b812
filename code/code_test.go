package code_test

import (
	"math"
	"reflect"
	"slices"
	"testing"

	"ganglion/api"
	"ganglion/code"
	"ganglion/net"
)

// generator is the one of the document.
type generator uint64

func (g *generator) below(n int) int {
	*g = *g*6364136223846793005 + 1442695040888963407
	return int(uint64(*g)>>33) % n
}

func (g *generator) from(least, most int) int { return least + g.below(most-least+1) }

func (g *generator) one(l ...int) int { return l[g.below(len(l))] }

// numbers are n numbers from least to most.
func (g *generator) numbers(n, least, most int) []int {
	var l []int
	for range n {
		l = append(l, g.from(least, most))
	}
	return l
}

func (g *generator) truths(n int) []bool {
	var l []bool
	for range n {
		l = append(l, g.below(2) == 0)
	}
	return l
}

func ev(tick, id int) api.Event { return api.Event{Tick: tick, Id: id} }

// edges are numbers at the bounds of what functions allow, and far outside.
var edges = []int{math.MinInt, math.MinInt + 1, -1 << 32, -api.MaxWeight - 1, -api.MaxWeight, 1 - api.MaxWeight, -1001, -1000, -2, -1, 0, 1, 2, 3, 8, 9, 30, 31, 64, 65, 100, 101, 256, 257, 1000, 1001, 1024, 1025, 4096, 4097, 9999, 10000, 32000, 32001, api.MaxWeight, api.MaxWeight + 1, api.MaxWeight + 2, 1000000, 1000001, 1 << 32, math.MaxInt - 1, math.MaxInt}

// faulty are all of the edges that are not from least to most.
func faulty(least, most int) []int {
	return slices.DeleteFunc(slices.Clone(edges), func(x int) bool { return least <= x && x <= most })
}

// bad checks that a list came with an error, and without elements.
func bad[T any](t *testing.T, what string, l []T, e, want api.Errno) {
	t.Helper()
	if e != want || len(l) != 0 {
		t.Errorf("%s: %v, %d, want the error %d", what, l, e, want)
	}
}

// badNet does so for a network.
func badNet(t *testing.T, what string, n api.Net, e, want api.Errno) {
	t.Helper()
	if e != want || !reflect.DeepEqual(n, api.Net{}) {
		t.Errorf("%s: %v, %d, want the error %d", what, n, e, want)
	}
}

// P10.1: Rate says values by spikes, for all that is allowed and nothing else.
func TestP10_1Rate(t *testing.T) {
	for _, x := range []struct {
		v, most, ticks int
		want           []int
	}{
		{3, 4, 8, []int{1, 2, 3, 5, 6, 7}},
		{1, 3, 7, []int{2, 5}},
		{0, 1, 4096, nil},
		{1, 1, 3, []int{0, 1, 2}},
		{1024, 1024, 2, []int{0, 1}},
		{1, 1024, 1023, nil},
		{1, 1024, 1024, []int{1023}},
		{1023, 1024, 3, []int{1, 2}},
		{1, 2, 1, nil},
		{2, 2, 1, []int{0}},
		{1, 1024, 4096, []int{1023, 2047, 3071, 4095}},
	} {
		if l, e := code.Rate(x.v, x.most, x.ticks); e != api.OK || !slices.Equal(l, x.want) {
			t.Errorf("Rate(%d, %d, %d): %v, %d, want %v", x.v, x.most, x.ticks, l, e, x.want)
		}
	}
	for _, k := range faulty(1, 1024) {
		l, e := code.Rate(0, k, 8)
		bad(t, "most", l, e, api.ErrRange)
	}
	for _, k := range faulty(1, 4096) {
		l, e := code.Rate(0, 4, k)
		bad(t, "ticks", l, e, api.ErrRange)
	}
	for _, k := range faulty(0, 4) {
		l, e := code.Rate(k, 4, 8)
		bad(t, "v", l, e, api.ErrRange)
	}
}

// P10.1: Unrate encloses the values; count and lost together do not wrap around.
func TestP10_1Unrate(t *testing.T) {
	for _, x := range []struct {
		count, most, ticks, lost, lo, hi int
		e                                api.Errno
	}{
		{6, 4, 8, 0, 3, 3, api.OK},
		{5, 4, 8, 0, 0, 0, api.ErrNone},
		{5, 4, 8, 1, 3, 3, api.OK},
		{4, 4, 8, 2, 2, 3, api.OK},
		{0, 10, 2, 0, 0, 4, api.OK},
		{1, 10, 2, 0, 5, 9, api.OK},
		{2, 10, 2, 0, 10, 10, api.OK},
		{1, 10, 2, 9, 5, 10, api.OK},
		{8, 4, 8, 0, 4, 4, api.OK},
		{7, 4, 8, 0, 0, 0, api.ErrNone},
		{7, 4, 8, math.MaxInt, 4, 4, api.OK},
		{1, 4, 8, math.MaxInt, 1, 4, api.OK},
		{0, 1024, 4096, math.MaxInt, 0, 1024, api.OK},
		{4095, 1024, 4096, 0, 0, 0, api.ErrNone},
		{4092, 1024, 4096, 0, 1023, 1023, api.OK},
		{0, 1, 1, 0, 0, 0, api.OK},
		{9, 4, 8, 0, 0, 0, api.ErrRange},
		{-1, 4, 8, 2, 0, 0, api.ErrRange},
		{math.MinInt, 4, 8, 0, 0, 0, api.ErrRange},
		{math.MaxInt, 4, 8, 0, 0, 0, api.ErrRange},
		{6, 4, 8, -1, 0, 0, api.ErrRange},
		{5, 4, 8, -1, 0, 0, api.ErrRange},
		{6, 4, 8, math.MinInt, 0, 0, api.ErrRange},
	} {
		if lo, hi, e := code.Unrate(x.count, x.most, x.ticks, x.lost); lo != x.lo || hi != x.hi || e != x.e {
			t.Errorf("Unrate(%d, %d, %d, %d): %d, %d, %d, want %d, %d, %d", x.count, x.most, x.ticks, x.lost, lo, hi, e, x.lo, x.hi, x.e)
		}
	}
	for _, k := range faulty(1, 1024) {
		if lo, hi, e := code.Unrate(0, k, 8, 8); lo != 0 || hi != 0 || e != api.ErrRange {
			t.Errorf("most %d: %d, %d, %d", k, lo, hi, e)
		}
	}
	for _, k := range faulty(1, 4096) {
		if lo, hi, e := code.Unrate(0, 4, k, 8); lo != 0 || hi != 0 || e != api.ErrRange {
			t.Errorf("ticks %d: %d, %d, %d", k, lo, hi, e)
		}
	}
}

// P10.2: Order puts the greatest value first, and of equal ones the first.
func TestP10_2Order(t *testing.T) {
	for _, x := range []struct {
		values []int
		gap    int
		want   []api.Event
	}{
		{[]int{5, 9, 5}, 2, []api.Event{ev(0, 1), ev(2, 0), ev(4, 2)}},
		{[]int{7}, 100, []api.Event{ev(0, 0)}},
		{[]int{1, 2, 3}, 1, []api.Event{ev(0, 2), ev(1, 1), ev(2, 0)}},
		{[]int{0, 0, 0}, 3, []api.Event{ev(0, 0), ev(3, 1), ev(6, 2)}},
		{[]int{math.MinInt, math.MaxInt, -1, 0}, 100, []api.Event{ev(0, 1), ev(100, 3), ev(200, 2), ev(300, 0)}},
		{[]int{math.MaxInt, math.MinInt}, 1, []api.Event{ev(0, 0), ev(1, 1)}},
	} {
		if l, e := code.Order(x.values, x.gap); e != api.OK || !slices.Equal(l, x.want) {
			t.Errorf("Order(%v, %d): %v, %d, want %v", x.values, x.gap, l, e, x.want)
		}
	}
	if l, e := code.Order(make([]int, 64), 100); e != api.OK || len(l) != 64 || l[63] != ev(6300, 63) {
		t.Errorf("64 values: %v, %d", l, e)
	}
	for _, x := range []struct {
		n, gap int
		e      api.Errno
	}{{0, 1, api.ErrRange}, {0, 0, api.ErrRange}, {65, 1, api.ErrMany}, {65, 0, api.ErrMany}, {1000, 101, api.ErrMany}} {
		l, e := code.Order(make([]int, x.n), x.gap)
		bad(t, "values", l, e, x.e)
	}
	for _, k := range faulty(1, 100) {
		l, e := code.Order([]int{3, 4}, k)
		bad(t, "gap", l, e, api.ErrRange)
	}
}

// P10.2: Unorder takes the least tick of each number, and passes over other numbers.
func TestP10_2Unorder(t *testing.T) {
	for _, x := range []struct {
		n    int
		l    []api.Event
		want []int
	}{
		{3, []api.Event{ev(3, 1), ev(2, 0), ev(2, 2)}, []int{0, 2, 1}},
		{3, []api.Event{ev(2, 2), ev(2, 1), ev(2, 0)}, []int{0, 1, 2}},
		{3, []api.Event{ev(9, 1), ev(5, 0), ev(4, 1), ev(6, 1)}, []int{1, 0}},
		{3, []api.Event{ev(0, 3), ev(0, -1), ev(0, math.MaxInt), ev(0, math.MinInt), ev(7, 2)}, []int{2}},
		{1, []api.Event{ev(0, 1)}, nil},
		{2, []api.Event{ev(math.MaxInt, 0), ev(math.MinInt, 1)}, []int{1, 0}},
		{2, []api.Event{ev(-1, 1), ev(0, 0), ev(-1, 1)}, []int{1, 0}},
		{64, []api.Event{ev(5, 63), ev(6, 0), ev(1, 64)}, []int{63, 0}},
		{64, nil, nil},
	} {
		if l, e := code.Unorder(x.n, x.l); e != api.OK || !slices.Equal(l, x.want) {
			t.Errorf("Unorder(%d, %v): %v, %d, want %v", x.n, x.l, l, e, x.want)
		}
	}
	for _, k := range faulty(1, 64) {
		l, e := code.Unorder(k, []api.Event{ev(0, 0)})
		bad(t, "n", l, e, api.ErrRange)
	}
}

// P10.3: Phase says a value for each period.
func TestP10_3Phase(t *testing.T) {
	for _, x := range []struct {
		values        []int
		kinds, jitter int
		want          []int
		e             api.Errno
	}{
		{[]int{2, 0}, 3, 1, []int{7, 10}, api.OK},
		{[]int{0, 0, 0}, 1, 0, []int{0, 1, 2}, api.OK},
		{[]int{0, 0}, 1, 100, []int{100, 301}, api.OK},
		{[]int{255, 0, 1}, 256, 0, []int{255, 256, 513}, api.OK},
		{nil, 256, 100, nil, api.OK},
		{[]int{2, 3}, 3, 1, nil, api.ErrRange},
		{[]int{-1, 0}, 3, 1, nil, api.ErrRange},
		{[]int{0, math.MinInt}, 3, 1, nil, api.ErrRange},
		{[]int{math.MaxInt}, 256, 100, nil, api.ErrRange},
		{[]int{1}, 1, 0, nil, api.ErrRange},
		{make([]int, 4097), 0, 0, nil, api.ErrRange},
		{make([]int, 4097), 1, -1, nil, api.ErrRange},
		{slices.Repeat([]int{-1}, 4097), 1, 0, nil, api.ErrMany},
	} {
		if l, e := code.Phase(x.values, x.kinds, x.jitter); e != x.e || !slices.Equal(l, x.want) {
			t.Errorf("Phase(%v, %d, %d): %v, %d, want %v, %d", x.values, x.kinds, x.jitter, l, e, x.want, x.e)
		}
	}
	full := slices.Repeat([]int{255}, 4096)
	if l, e := code.Phase(full, 256, 100); e != api.OK || len(l) != 4096 || l[4095] != 4096*256*201-101 {
		t.Errorf("4096 values: %d of them, %d", len(l), e)
	}
}

// P10.3: Unphase finds slots; the first tick with an error decides.
func TestP10_3Unphase(t *testing.T) {
	for _, x := range []struct {
		ticks         []int
		kinds, jitter int
		want          []int
		e             api.Errno
	}{
		{[]int{8, 9}, 3, 1, []int{2, 0}, api.OK},
		{[]int{6, 11}, 3, 1, []int{2, 0}, api.OK},
		{[]int{0, 17}, 3, 1, []int{0, 2}, api.OK},
		{[]int{5, 12}, 3, 1, []int{1, 1}, api.OK},
		{[]int{200, 201}, 1, 100, []int{0, 0}, api.OK},
		{nil, 3, 1, nil, api.OK},
		{[]int{9}, 3, 1, nil, api.ErrNone},
		{[]int{0, 8}, 3, 1, nil, api.ErrNone},
		{[]int{0, 18}, 3, 1, nil, api.ErrNone},
		{[]int{math.MaxInt}, 256, 100, nil, api.ErrNone},
		{[]int{-1}, 3, 1, nil, api.ErrRange},
		{[]int{math.MinInt}, 3, 1, nil, api.ErrRange},
		{[]int{9, -1}, 3, 1, nil, api.ErrNone},
		{[]int{-1, 0}, 3, 1, nil, api.ErrRange},
		{[]int{0, -1, 0}, 3, 1, nil, api.ErrRange},
		{make([]int, 4097), 257, 0, nil, api.ErrRange},
		{slices.Repeat([]int{-1}, 4097), 1, 0, nil, api.ErrMany},
	} {
		if l, e := code.Unphase(x.ticks, x.kinds, x.jitter); e != x.e || !slices.Equal(l, x.want) {
			t.Errorf("Unphase(%v, %d, %d): %v, %d, want %v, %d", x.ticks, x.kinds, x.jitter, l, e, x.want, x.e)
		}
	}
	for _, k := range faulty(1, 256) {
		l, e := code.Phase(nil, k, 1)
		bad(t, "kinds", l, e, api.ErrRange)
		l, e = code.Unphase(nil, k, 1)
		bad(t, "kinds", l, e, api.ErrRange)
	}
	for _, k := range faulty(0, 100) {
		l, e := code.Phase(nil, 3, k)
		bad(t, "jitter", l, e, api.ErrRange)
		l, e = code.Unphase(nil, 3, k)
		bad(t, "jitter", l, e, api.ErrRange)
	}
}

// layer returns a layer of units with these rows and thresholds 1.
func layer(rows ...[]int) code.Layer {
	return code.Layer{Weights: rows, Thresh: slices.Repeat([]int{1}, len(rows))}
}

// row returns n weights, of which the last one is w.
func row(n, w int) []int { return append(make([]int, n-1), w) }

// thresholds returns a layer for 2 inputs with these thresholds.
func thresholds(l ...int) code.Layer {
	return code.Layer{Weights: slices.Repeat([][]int{{0, 0}}, len(l)), Thresh: l}
}

// P10.4: Decide and Convert examine the inputs, how many layers there are, and then layer by layer.
func TestP10_4Errors(t *testing.T) {
	fine := layer([]int{1, 1}, []int{1, -1})
	far := layer(row(2, api.MaxWeight+1))
	rows := func(n int) code.Layer { return layer(slices.Repeat([][]int{{1, 1}}, n)...) }
	for _, x := range []struct {
		name   string
		inputs int
		l      []code.Layer
		e      api.Errno
	}{
		{"no inputs", 0, []code.Layer{fine}, api.ErrRange},
		{"31 inputs", 31, []code.Layer{fine}, api.ErrRange},
		{"inputs before layers", 31, nil, api.ErrRange},
		{"30 inputs", 30, []code.Layer{layer(make([]int, 30))}, api.OK},
		{"no layers", 2, nil, api.ErrMany},
		{"9 layers", 2, slices.Repeat([]code.Layer{fine}, 9), api.ErrMany},
		{"layers before each of them", 2, make([]code.Layer, 9), api.ErrMany},
		{"8 layers", 2, slices.Repeat([]code.Layer{fine}, 8), api.OK},
		{"no units", 2, []code.Layer{{}}, api.ErrRange},
		{"no units, but thresholds", 2, []code.Layer{{Thresh: []int{1}}}, api.ErrRange},
		{"31 units", 2, []code.Layer{rows(31)}, api.ErrRange},
		{"31 units before their rows", 2, []code.Layer{{Weights: make([][]int, 31)}}, api.ErrRange},
		{"30 units", 2, []code.Layer{rows(30)}, api.OK},
		{"no thresholds", 2, []code.Layer{{Weights: fine.Weights}}, api.ErrShape},
		{"a threshold too few", 2, []code.Layer{{Weights: fine.Weights, Thresh: []int{1}}}, api.ErrShape},
		{"a threshold too many", 2, []code.Layer{{Weights: fine.Weights, Thresh: []int{1, 1, 1}}}, api.ErrShape},
		{"a weight too few", 2, []code.Layer{layer([]int{1, 1}, []int{1})}, api.ErrShape},
		{"a weight too many", 2, []code.Layer{layer([]int{1, 1, 1}, []int{1, 1})}, api.ErrShape},
		{"an empty row", 2, []code.Layer{layer([]int{1, 1}, nil)}, api.ErrShape},
		{"shape before weights", 2, []code.Layer{layer([]int{40000, 1}, []int{1})}, api.ErrShape},
		{"shape before thresholds", 2, []code.Layer{{Weights: [][]int{{1, 1}, {1}}, Thresh: []int{40000, 1}}}, api.ErrShape},
		{"weight 32769", 2, []code.Layer{far}, api.ErrRange},
		{"weight 32768", 2, []code.Layer{layer(row(2, 32768))}, api.OK},
		{"weight -32768", 2, []code.Layer{layer(row(2, -32768))}, api.OK},
		{"weight -32769", 2, []code.Layer{layer(row(2, -32769))}, api.ErrRange},
		{"least weight", 2, []code.Layer{layer(row(2, 0), row(2, math.MinInt))}, api.ErrRange},
		{"greatest weight", 2, []code.Layer{layer(row(2, math.MaxInt))}, api.ErrRange},
		{"threshold 32769", 2, []code.Layer{thresholds(0, 32769)}, api.OK},
		{"threshold 32770", 2, []code.Layer{thresholds(0, 32770)}, api.ErrRange},
		{"threshold -32767", 2, []code.Layer{thresholds(-32767, 0)}, api.OK},
		{"threshold -32768", 2, []code.Layer{thresholds(-32768, 0)}, api.ErrRange},
		{"least threshold", 2, []code.Layer{thresholds(0, math.MinInt)}, api.ErrRange},
		{"greatest threshold", 2, []code.Layer{thresholds(math.MaxInt)}, api.ErrRange},
		{"first layer first", 2, []code.Layer{far, {}}, api.ErrRange},
		{"first layer first", 2, []code.Layer{layer([]int{1}), far}, api.ErrShape},
		{"second layer", 2, []code.Layer{fine, layer([]int{1, 1, 1})}, api.ErrShape},
		{"units before the second layer", 3, []code.Layer{layer([]int{1, 1, 1}), layer([]int{1})}, api.OK},
		{"inputs are not before the second layer", 3, []code.Layer{layer([]int{1, 1, 1}), layer([]int{1, 1, 1})}, api.ErrShape},
		{"third layer", 2, []code.Layer{fine, fine, {}}, api.ErrRange},
	} {
		n, e := code.Convert(x.inputs, x.l)
		l, f := code.Decide(x.l, make([]bool, x.inputs))
		if x.e != api.OK {
			badNet(t, "Convert: "+x.name, n, e, x.e)
			bad(t, "Decide: "+x.name, l, f, x.e)
		} else if e != api.OK || f != api.OK || net.Check(n) != api.OK || len(l) != len(x.l[len(x.l)-1].Weights) {
			t.Errorf("%s: %v, %d; %v, %d", x.name, n, e, l, f)
		}
	}
	for _, k := range faulty(1, 30) {
		n, e := code.Convert(k, []code.Layer{fine})
		badNet(t, "inputs", n, e, api.ErrRange)
	}
}

// P10.4: the example of the chapter.
func TestP10_4Example(t *testing.T) {
	l := []code.Layer{{Weights: [][]int{{1, 1}, {1, 1}, {-1, -1}}, Thresh: []int{1, 2, 0}}}
	if says, e := code.Decide(l, []bool{true, false}); e != api.OK || !slices.Equal(says, []bool{true, false, false}) {
		t.Errorf("Decide: %v, %d", says, e)
	}
	n, e := code.Convert(2, l)
	want := []api.Synapse{{From: -1, To: 2, Weight: -1, Delay: 1}, {From: -2, To: 2, Weight: -1, Delay: 1}, {From: -3, To: 2, Weight: 1, Delay: 1}}
	if e != api.OK || len(n.Neurons) != 3 || n.Inputs != 3 || !slices.Equal(n.Synapses[6:], want) {
		t.Errorf("Convert: %v, %d", n, e)
	}
	in, e := code.Present([]bool{true, false}, 5)
	if e != api.OK || !slices.Equal(in, []api.Event{ev(5, 0), ev(5, 2)}) {
		t.Errorf("Present: %v, %d", in, e)
	}
	if out, e := net.Run(n, in, 8); e != api.OK || !slices.Equal(out, []api.Event{ev(6, 0)}) {
		t.Errorf("Run: %v, %d", out, e)
	}
}

// P10.4: Present gives the events of one tick.
func TestP10_4Present(t *testing.T) {
	for _, x := range []struct {
		x    []bool
		tick int
		want []api.Event
	}{
		{[]bool{true, false}, 5, []api.Event{ev(5, 0), ev(5, 2)}},
		{[]bool{false, false, false}, 0, []api.Event{ev(0, 3)}},
		{[]bool{true, true, true}, 9999, []api.Event{ev(9999, 0), ev(9999, 1), ev(9999, 2), ev(9999, 3)}},
		{make([]bool, 30), 1, []api.Event{ev(1, 30)}},
		{[]bool{true}, 7, []api.Event{ev(7, 0), ev(7, 1)}},
	} {
		if l, e := code.Present(x.x, x.tick); e != api.OK || !slices.Equal(l, x.want) {
			t.Errorf("Present(%v, %d): %v, %d, want %v", x.x, x.tick, l, e, x.want)
		}
	}
	for _, k := range faulty(0, 9999) {
		l, e := code.Present([]bool{true}, k)
		bad(t, "tick", l, e, api.ErrRange)
	}
	for _, n := range []int{0, 31, 1000} {
		l, e := code.Present(make([]bool, n), 0)
		bad(t, "number of x", l, e, api.ErrRange)
	}
}

// unit is a unit with these weights.
func unit(bias, thresh int, weights ...int) code.Unit {
	return code.Unit{Weights: weights, Bias: bias, Thresh: thresh}
}

// P10.5: Level and Frame examine the inputs, the greatest count, how many layers there are, and then unit by unit.
func TestP10_5Errors(t *testing.T) {
	fine := []code.Unit{unit(1, 3, 2, -1), unit(0, 1, 0, 0)}
	for _, x := range []struct {
		name         string
		inputs, most int
		l            [][]code.Unit
		e            api.Errno
	}{
		{"no inputs", 0, 4, [][]code.Unit{fine}, api.ErrRange},
		{"31 inputs", 31, 4, [][]code.Unit{fine}, api.ErrRange},
		{"30 inputs", 30, 4, [][]code.Unit{{unit(0, 1, make([]int, 30)...)}}, api.OK},
		{"most before layers", 2, 65, nil, api.ErrRange},
		{"inputs before layers", 0, 4, nil, api.ErrRange},
		{"no layers", 2, 4, nil, api.ErrMany},
		{"9 layers", 2, 4, slices.Repeat([][]code.Unit{fine}, 9), api.ErrMany},
		{"layers before each of them", 2, 4, make([][]code.Unit, 9), api.ErrMany},
		{"8 layers", 2, 4, slices.Repeat([][]code.Unit{fine}, 8), api.OK},
		{"no units", 2, 4, [][]code.Unit{nil}, api.ErrRange},
		{"31 units", 2, 4, [][]code.Unit{make([]code.Unit, 31)}, api.ErrRange},
		{"30 units", 2, 4, [][]code.Unit{slices.Repeat(fine, 15)}, api.OK},
		{"a weight too few", 2, 4, [][]code.Unit{{unit(0, 1, 1)}}, api.ErrShape},
		{"a weight too many", 2, 4, [][]code.Unit{{unit(0, 1, 1, 1, 1)}}, api.ErrShape},
		{"shape before threshold", 2, 4, [][]code.Unit{{unit(0, 0)}}, api.ErrShape},
		{"threshold 0", 1, 4, [][]code.Unit{{unit(0, 0, 1)}}, api.ErrRange},
		{"threshold 32000", 1, 4, [][]code.Unit{{unit(0, 32000, 1)}}, api.OK},
		{"threshold 32001", 1, 4, [][]code.Unit{{unit(0, 32001, 1)}}, api.ErrRange},
		{"threshold -1", 1, 4, [][]code.Unit{{unit(0, -1, 1)}}, api.ErrRange},
		{"least threshold", 1, 4, [][]code.Unit{{unit(0, math.MinInt, 1)}}, api.ErrRange},
		{"threshold before sum", 1, 4, [][]code.Unit{{unit(0, 0, 40000)}}, api.ErrRange},
		{"bias 32000", 1, 4, [][]code.Unit{{unit(32000, 1, 0)}}, api.OK},
		{"bias -32000", 1, 4, [][]code.Unit{{unit(-32000, 1, 0)}}, api.OK},
		{"bias 32001", 1, 4, [][]code.Unit{{unit(32001, 1, 0)}}, api.ErrOver},
		{"bias -32001", 1, 4, [][]code.Unit{{unit(-32001, 1, 0)}}, api.ErrOver},
		{"weight 8000", 1, 4, [][]code.Unit{{unit(0, 1, 8000)}}, api.OK},
		{"weight -8000", 1, 4, [][]code.Unit{{unit(0, 1, -8000)}}, api.OK},
		{"weight 8001", 1, 4, [][]code.Unit{{unit(0, 1, 8001)}}, api.ErrOver},
		{"weight -8001", 1, 4, [][]code.Unit{{unit(0, 1, -8001)}}, api.ErrOver},
		{"weight and bias", 1, 4, [][]code.Unit{{unit(-1, 1, 8000)}}, api.ErrOver},
		{"weight and bias of other signs", 1, 4, [][]code.Unit{{unit(4, 1, -7999)}}, api.OK},
		{"weights of other signs", 2, 4, [][]code.Unit{{unit(0, 1, 4000, -4001)}}, api.ErrOver},
		{"weights of other signs", 2, 4, [][]code.Unit{{unit(0, 1, 4000, -4000)}}, api.OK},
		{"most 64", 1, 64, [][]code.Unit{{unit(0, 1, 500)}}, api.OK},
		{"most 64", 1, 64, [][]code.Unit{{unit(0, 1, 501)}}, api.ErrOver},
		{"most 1", 1, 1, [][]code.Unit{{unit(0, 1, 32000)}}, api.OK},
		{"least numbers", 1, 1, [][]code.Unit{{unit(math.MinInt, 1, math.MinInt)}}, api.ErrOver},
		{"least weight", 1, 64, [][]code.Unit{{unit(0, 1, math.MinInt)}}, api.ErrOver},
		{"numbers that wrap around", 2, 64, [][]code.Unit{{unit(0, 1, 1<<62, 1<<62)}}, api.ErrOver},
		{"numbers that wrap around", 2, 1, [][]code.Unit{{unit(0, 1, math.MaxInt, math.MaxInt)}}, api.ErrOver},
		{"first unit first", 1, 4, [][]code.Unit{{unit(0, 1, 9000), unit(0, 0, 1), unit(0, 1)}}, api.ErrOver},
		{"first unit first", 1, 4, [][]code.Unit{{unit(0, 1, 1), unit(0, 0, 1), unit(0, 1)}}, api.ErrRange},
		{"first layer first", 1, 4, [][]code.Unit{{unit(0, 1)}, nil}, api.ErrShape},
		{"second layer", 2, 4, [][]code.Unit{fine, nil}, api.ErrRange},
		{"units before the second layer", 1, 4, [][]code.Unit{{unit(0, 1, 1), unit(0, 1, 1)}, {unit(0, 1, 1, 1)}}, api.OK},
		{"inputs are not before the second layer", 1, 4, [][]code.Unit{{unit(0, 1, 1), unit(0, 1, 1)}, {unit(0, 1, 1)}}, api.ErrShape},
	} {
		n, e := code.Frame(x.inputs, x.l, x.most)
		l, f := code.Level(x.l, x.most, make([]int, x.inputs))
		if x.e != api.OK {
			badNet(t, "Frame: "+x.name, n, e, x.e)
			bad(t, "Level: "+x.name, l, f, x.e)
		} else if e != api.OK || f != api.OK || net.Check(n) != api.OK || len(l) != len(x.l[len(x.l)-1]) {
			t.Errorf("%s: %v, %d; %v, %d", x.name, n, e, l, f)
		}
	}
	for _, k := range faulty(1, 30) {
		n, e := code.Frame(k, [][]code.Unit{fine}, 4)
		badNet(t, "inputs", n, e, api.ErrRange)
	}
	for _, k := range faulty(1, 64) {
		n, e := code.Frame(2, [][]code.Unit{fine}, k)
		badNet(t, "most", n, e, api.ErrRange)
		l, e := code.Level([][]code.Unit{fine}, k, []int{0, 0})
		bad(t, "most", l, e, api.ErrRange)
	}
}

// P10.5: counts are examined behind the layers.
func TestP10_5Level(t *testing.T) {
	one := [][]code.Unit{{unit(1, 3, 2, -1)}}
	for _, x := range []struct {
		l    [][]code.Unit
		x    []int
		want []int
		e    api.Errno
	}{
		{one, []int{4, 1}, []int{2}, api.OK},
		{one, []int{0, 4}, []int{0}, api.OK},
		{one, []int{0, 2}, []int{0}, api.OK},
		{one, []int{1, 0}, []int{1}, api.OK},
		{one, []int{2, 0}, []int{1}, api.OK},
		{[][]code.Unit{{unit(0, 1, 1, 1)}}, []int{4, 4}, []int{4}, api.OK},
		{[][]code.Unit{{unit(0, 1, 1, 1)}}, []int{1, 2}, []int{3}, api.OK},
		{[][]code.Unit{{unit(-31996, 31999, 1, 0)}}, []int{4, 0}, []int{0}, api.OK},
		{[][]code.Unit{{unit(7, 2, 0, 0), unit(2, 1, -1, 0)}, {unit(0, 1, 1, 0), unit(0, 1, 0, 1)}}, []int{1, 0}, []int{3, 1}, api.OK},
		{one, []int{5, 0}, nil, api.ErrRange},
		{one, []int{0, -1}, nil, api.ErrRange},
		{one, []int{0, math.MinInt}, nil, api.ErrRange},
		{one, []int{math.MaxInt, 0}, nil, api.ErrRange},
		{[][]code.Unit{{unit(1, 3, 2)}}, []int{9, 9}, nil, api.ErrShape},
		{nil, []int{9, 9}, nil, api.ErrMany},
	} {
		if l, e := code.Level(x.l, 4, x.x); e != x.e || !slices.Equal(l, x.want) {
			t.Errorf("Level(%v, 4, %v): %v, %d, want %v, %d", x.l, x.x, l, e, x.want, x.e)
		}
	}
}

// P10.5: the events of counts.
func TestP10_5Frames(t *testing.T) {
	for _, x := range []struct {
		layers, most int
		x            []int
		want         []api.Event
	}{
		{1, 4, []int{2, 0}, []api.Event{ev(0, 2), ev(1, 0), ev(2, 0), ev(5, 3), ev(9, 4)}},
		{1, 1, []int{0}, []api.Event{ev(0, 1), ev(2, 2), ev(3, 3)}},
		{2, 2, []int{1, 2}, []api.Event{ev(0, 2), ev(1, 0), ev(1, 1), ev(2, 1), ev(3, 3), ev(5, 4), ev(6, 5), ev(8, 6)}},
		{3, 1, []int{1}, []api.Event{ev(0, 1), ev(1, 0), ev(2, 2), ev(3, 3), ev(4, 4), ev(5, 5), ev(6, 6), ev(7, 7)}},
	} {
		if l, e := code.Frames(x.layers, x.most, x.x); e != api.OK || !slices.Equal(l, x.want) {
			t.Errorf("Frames(%d, %d, %v): %v, %d, want %v", x.layers, x.most, x.x, l, e, x.want)
		}
	}
	if l, e := code.Frames(8, 64, slices.Repeat([]int{64}, 30)); e != api.OK || len(l) != 1+64*30+16 || l[len(l)-1] != ev(584, 46) {
		t.Errorf("all of it: %d events, %d", len(l), e)
	}
	for _, k := range faulty(1, 8) {
		l, e := code.Frames(k, 4, []int{1})
		bad(t, "layers", l, e, api.ErrRange)
	}
	for _, k := range faulty(1, 64) {
		l, e := code.Frames(1, k, []int{0})
		bad(t, "most", l, e, api.ErrRange)
	}
	for _, k := range faulty(0, 4) {
		l, e := code.Frames(1, 4, []int{0, k})
		bad(t, "count", l, e, api.ErrRange)
	}
	for _, n := range []int{0, 31, 1000} {
		l, e := code.Frames(1, 4, make([]int, n))
		bad(t, "number of x", l, e, api.ErrRange)
	}
}

// P10.5: the example of the chapter.
func TestP10_5Example(t *testing.T) {
	n, e := code.Frame(2, [][]code.Unit{{unit(1, 3, 2, -1)}}, 4)
	in, f := code.Frames(1, 4, []int{4, 1})
	if e != api.OK || f != api.OK {
		t.Fatal(e, f)
	}
	if l, e := net.Run(n, in, 30); e != api.OK || !slices.Equal(l, []api.Event{ev(6, 0), ev(7, 0)}) {
		t.Errorf("%v, %d", l, e)
	}
}

// sample is a sample with these features.
func sample(yes bool, x ...int) code.Sample { return code.Sample{X: x, Yes: yes} }

// P10.6: what is learned.
func TestP10_6Train(t *testing.T) {
	two := []code.Sample{sample(true, 1), sample(false, -1)}
	same := []code.Sample{sample(true, 1), sample(false, 1)}
	for _, x := range []struct {
		l              []code.Sample
		margin, rounds int
		want           code.Trained
	}{
		{two, 0, 9, code.Trained{Weights: []int{2}, Updates: 2, Done: true}},
		{two, 3, 9, code.Trained{Weights: []int{4}, Updates: 4, Done: true}},
		{two, 0, 1, code.Trained{Weights: []int{2}, Updates: 2}},
		{two, 0, 2, code.Trained{Weights: []int{2}, Updates: 2, Done: true}},
		{two, 3, 2, code.Trained{Weights: []int{4}, Updates: 4}},
		{two, 2, 9, code.Trained{Weights: []int{4}, Updates: 4, Done: true}},
		{two, 1, 9, code.Trained{Weights: []int{2}, Updates: 2, Done: true}},
		{same, 0, 1000, code.Trained{Weights: []int{0}, Updates: 2000}},
		{[]code.Sample{sample(false, 0, 0)}, 1, 9, code.Trained{Weights: []int{0, 0}, Bias: -2, Updates: 2, Done: true}},
		{[]code.Sample{sample(true, 3, -2)}, 0, 9, code.Trained{Weights: []int{3, -2}, Bias: 1, Updates: 1, Done: true}},
		{[]code.Sample{sample(false, 3, -2)}, 14, 9, code.Trained{Weights: []int{-6, 4}, Bias: -2, Updates: 2, Done: true}},
	} {
		if r, e := code.Train(x.l, x.margin, x.rounds); e != api.OK || !reflect.DeepEqual(r, x.want) {
			t.Errorf("Train(%v, %d, %d): %v, %d, want %v", x.l, x.margin, x.rounds, r, e, x.want)
		}
	}
}

// P10.6: Train examines the samples one by one, and then the margin and the rounds.
func TestP10_6Errors(t *testing.T) {
	two := []code.Sample{sample(true, 1), sample(false, -1)}
	with := func(l ...code.Sample) []code.Sample { return append(slices.Clone(two), l...) }
	for _, x := range []struct {
		name           string
		l              []code.Sample
		margin, rounds int
		e              api.Errno
	}{
		{"no samples", nil, 0, 1, api.ErrRange},
		{"257 samples", slices.Repeat([]code.Sample{sample(true, 1)}, 257), 0, 1, api.ErrMany},
		{"many before each of them", make([]code.Sample, 257), -1, 0, api.ErrMany},
		{"256 samples", slices.Repeat([]code.Sample{sample(true, 1)}, 256), 0, 1, api.OK},
		{"no features", []code.Sample{{}}, 0, 1, api.ErrRange},
		{"31 features", []code.Sample{sample(true, make([]int, 31)...)}, 0, 1, api.ErrRange},
		{"30 features", []code.Sample{sample(true, make([]int, 30)...)}, 0, 1, api.OK},
		{"first sample before the others", []code.Sample{{}, sample(true, 1)}, 0, 1, api.ErrRange},
		{"a feature too few", with(code.Sample{}), 0, 1, api.ErrShape},
		{"a feature too many", with(sample(true, 1, 1)), 0, 1, api.ErrShape},
		{"shape before features", with(sample(true, 5000, 1)), 0, 1, api.ErrShape},
		{"feature 1000", with(sample(true, 1000)), 0, 1, api.OK},
		{"feature 1001", with(sample(true, 1001)), 0, 1, api.ErrRange},
		{"feature -1000", with(sample(true, -1000)), 0, 1, api.OK},
		{"feature -1001", with(sample(true, -1001)), 0, 1, api.ErrRange},
		{"least feature", []code.Sample{sample(true, math.MinInt)}, 0, 1, api.ErrRange},
		{"first sample first", with(sample(true, 1001), code.Sample{}), 0, 1, api.ErrRange},
		{"first sample first", with(code.Sample{}, sample(true, 1001)), 0, 1, api.ErrShape},
		{"samples before margin", with(code.Sample{}), -1, 1, api.ErrShape},
		{"samples before rounds", with(code.Sample{}), 0, 0, api.ErrShape},
		{"margin 1000000", two, 1000000, 1, api.OK},
		{"rounds 1000", two, 0, 1000, api.OK},
	} {
		r, e := code.Train(x.l, x.margin, x.rounds)
		if e != x.e || e != api.OK && !reflect.DeepEqual(r, code.Trained{}) {
			t.Errorf("%s: %v, %d, want %d", x.name, r, e, x.e)
		}
	}
	for _, k := range faulty(0, 1000000) {
		if r, e := code.Train(two, k, 1); e != api.ErrRange || !reflect.DeepEqual(r, code.Trained{}) {
			t.Errorf("margin %d: %v, %d", k, r, e)
		}
	}
	for _, k := range faulty(1, 1000) {
		if r, e := code.Train(two, 0, k); e != api.ErrRange || !reflect.DeepEqual(r, code.Trained{}) {
			t.Errorf("rounds %d: %v, %d", k, r, e)
		}
	}
}
