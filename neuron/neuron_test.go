package neuron_test

import (
	"math"
	"testing"

	"ganglion/api"
	"ganglion/neuron"
)

// edges are numbers at and around all bounds, and the greatest ones of all.
var edges = []int{0, 1, -1, 2, 3, 4, 5, 64, 65, 256, 257, api.MaxTicks, api.MaxTicks + 1, api.MaxV - 1, api.MaxV, api.MaxV + 1, -api.MaxV, -api.MaxV - 1, math.MaxInt, math.MinInt, math.MaxInt - 1, math.MinInt + 1}

// P0: whatever the arguments are, every function returns, and with an error all other results are zero values (R2).
func TestP0AnyArguments(t *testing.T) {
	var g generator = 7
	any := func() int { return edges[g.below(len(edges))] }
	for range 4000 {
		p := g.params(50)
		for _, field := range []*int{&p.LeakKind, &p.Leak, &p.Bias, &p.Thresh, &p.ResetKind, &p.Reset, &p.Floor, &p.Rest} {
			if g.below(12) == 0 {
				*field = any()
			}
		}
		s := api.State{V: g.from(-50, 50), Rest: g.below(3)}
		if g.below(3) == 0 {
			s = api.State{V: any(), Rest: any()}
		}
		checkZero(t, p, s, any())
	}
	for n := range 40 {
		neuron.Unpack(make([]byte, n))
	}
}

// checkZero calls everything, and complains of results beside an error.
func checkZero(t *testing.T, p api.Params, s api.State, x int) {
	t.Helper()
	neuron.Check(p)
	neuron.Valid(p, s)
	if v, e := neuron.Leak(p, x); e != api.OK && v != 0 {
		t.Errorf("Leak(%v, %d): %d with the error %d", p, x, v, e)
	}
	if q, spike, e := neuron.Tick(p, s, x); e != api.OK && (spike || q != api.State{}) {
		t.Errorf("Tick(%v, %v, %d): %v, %v with the error %d", p, s, x, q, spike, e)
	}
	if l, q, e := neuron.Run(p, s, []int{x, x, -x}); e != api.OK && (len(l) > 0 || q != api.State{}) {
		t.Errorf("Run(%v, %v, %d): %v, %v with the error %d", p, s, x, l, q, e)
	}
	if l, q, e := neuron.Silent(p, s, x); e != api.OK && (len(l) > 0 || q != api.State{}) {
		t.Errorf("Silent(%v, %v, %d): %v, %v with the error %d", p, s, x, l, q, e)
	}
	if n, e := neuron.Next(p, s); e != api.OK && n != 0 {
		t.Errorf("Next(%v, %v): %d with the error %d", p, s, n, e)
	}
	if a, b, c, e := neuron.Cycle(p, s, x); e != api.OK && (a != 0 || b != 0 || c != 0) {
		t.Errorf("Cycle(%v, %v, %d): %d, %d, %d with the error %d", p, s, x, a, b, c, e)
	}
	if b, e := neuron.Pack(p); e != api.OK && len(b) > 0 {
		t.Errorf("Pack(%v): %v with the error %d", p, b, e)
	}
}

// P1.1: Check, for each field at its bounds and just outside of them.
func TestP1_1Check(t *testing.T) {
	line := neuronA
	share := api.Params{LeakKind: api.LeakShare, Leak: 3, Thresh: 5, Floor: -4}
	none := api.Params{Thresh: 5, Floor: -4}
	sub := api.Params{Thresh: 5, ResetKind: api.ResetSub}
	set := func(p api.Params, change func(p *api.Params)) api.Params {
		change(&p)
		return p
	}
	leak := func(x int) func(*api.Params) { return func(p *api.Params) { p.Leak = x } }
	bias := func(x int) func(*api.Params) { return func(p *api.Params) { p.Bias = x } }
	thresh := func(x int) func(*api.Params) { return func(p *api.Params) { p.Thresh = x } }
	reset := func(x int) func(*api.Params) { return func(p *api.Params) { p.Reset = x } }
	floor := func(x int) func(*api.Params) { return func(p *api.Params) { p.Floor = x } }
	rest := func(x int) func(*api.Params) { return func(p *api.Params) { p.Rest = x } }
	const m = api.MaxV
	for i, x := range []struct {
		p    api.Params
		want api.Errno
	}{
		{line, api.OK}, {share, api.OK}, {none, api.OK}, {sub, api.OK}, {neuronB, api.OK},
		{api.Params{}, api.ErrRange}, {api.Params{Thresh: 1}, api.OK},
		{set(none, leak(1)), api.ErrRange}, {set(none, leak(-1)), api.ErrRange},
		{set(line, leak(0)), api.ErrRange}, {set(line, leak(m)), api.OK}, {set(line, leak(m+1)), api.ErrRange}, {set(line, leak(-1)), api.ErrRange},
		{set(share, leak(0)), api.ErrRange}, {set(share, leak(1)), api.OK}, {set(share, leak(256)), api.OK}, {set(share, leak(257)), api.ErrRange},
		{set(line, bias(m)), api.OK}, {set(line, bias(m+1)), api.ErrRange}, {set(line, bias(-m)), api.OK}, {set(line, bias(-m-1)), api.ErrRange},
		{set(line, thresh(1)), api.OK}, {set(line, thresh(m)), api.OK}, {set(line, thresh(m+1)), api.ErrRange}, {set(sub, thresh(0)), api.ErrRange},
		{set(set(line, reset(-1)), thresh(0)), api.ErrRange}, {set(set(line, reset(-2)), thresh(-1)), api.ErrRange},
		{set(line, reset(4)), api.OK}, {set(line, reset(5)), api.ErrRange}, {set(line, reset(-4)), api.OK}, {set(line, reset(-5)), api.ErrRange},
		{set(sub, reset(1)), api.ErrRange}, {set(set(sub, floor(-4)), reset(-1)), api.ErrRange},
		{set(line, floor(0)), api.OK}, {set(set(line, reset(2)), floor(1)), api.ErrRange}, {set(line, floor(-m)), api.OK}, {set(line, floor(-m-1)), api.ErrRange},
		{set(line, rest(0)), api.OK}, {set(line, rest(64)), api.OK}, {set(line, rest(65)), api.ErrRange}, {set(line, rest(-1)), api.ErrRange},
	} {
		if e := neuron.Check(x.p); e != x.want {
			t.Errorf("%d: Check(%v): %d, want %d", i, x.p, e, x.want)
		}
	}
}

// P1.1: a kind that is not known comes before all numbers, wherever it is.
func TestP1_1Kinds(t *testing.T) {
	for _, kind := range []int{-1, 3, 4, math.MaxInt, math.MinInt} {
		p := neuronA
		p.LeakKind = kind
		if e := neuron.Check(p); e != api.ErrArg {
			t.Errorf("the kind of leak %d: %d", kind, e)
		}
		p.Thresh = 0
		if e := neuron.Check(p); e != api.ErrArg {
			t.Errorf("the kind of leak %d, and a wrong threshold: %d", kind, e)
		}
	}
	for _, kind := range []int{-1, 2, 3, math.MaxInt, math.MinInt} {
		p := neuronA
		p.ResetKind = kind
		if e := neuron.Check(p); e != api.ErrArg {
			t.Errorf("the kind of reset %d: %d", kind, e)
		}
		p.Leak = 0
		if e := neuron.Check(p); e != api.ErrArg {
			t.Errorf("the kind of reset %d, and a wrong leak: %d", kind, e)
		}
	}
}

// P1.1: all functions return the error of Check first, then that of Valid, and their own ones only behind these.
func TestP1_1OrderOfErrors(t *testing.T) {
	kind, number := neuronA, neuronA
	kind.LeakKind = 9
	number.Thresh = 0
	wrong := api.State{V: -5}
	many := make([]int, api.MaxTicks+1)
	for _, x := range []struct {
		p    api.Params
		want api.Errno
	}{{kind, api.ErrArg}, {number, api.ErrRange}} {
		for name, e := range answers(x.p, wrong, -2*api.MaxV, many) {
			if e != x.want {
				t.Errorf("%s of %v: %d, want %d", name, x.p, e, x.want)
			}
		}
	}
	for name, e := range answers(neuronA, wrong, 1, many) {
		want := api.ErrRange
		if name == "Check" || name == "Leak" || name == "Pack" {
			want = api.OK
		}
		if e != want {
			t.Errorf("%s in a state that is not valid: %d, want %d", name, e, want)
		}
	}
}

// P1.1: Valid.
func TestP1_1Valid(t *testing.T) {
	for _, x := range []struct {
		s    api.State
		want api.Errno
	}{
		{api.State{}, api.OK}, {api.State{V: -4}, api.OK}, {api.State{V: -5}, api.ErrRange}, {api.State{V: 5}, api.OK},
		{api.State{V: api.MaxV, Rest: 1}, api.OK}, {api.State{V: api.MaxV + 1}, api.ErrRange},
		{api.State{Rest: 2}, api.ErrRange}, {api.State{Rest: -1}, api.ErrRange},
		{api.State{V: math.MinInt}, api.ErrRange}, {api.State{V: math.MaxInt}, api.ErrRange}, {api.State{Rest: math.MaxInt}, api.ErrRange},
	} {
		if e := neuron.Valid(neuronA, x.s); e != x.want {
			t.Errorf("Valid(A, %v): %d, want %d", x.s, e, x.want)
		}
	}
}

// P1.1: Leak, around 0 one by one, and at the bounds.
func TestP1_1Leak(t *testing.T) {
	for _, p := range []api.Params{
		{Thresh: 1}, {Thresh: 1, LeakKind: api.LeakLine, Leak: 1}, {Thresh: 1, LeakKind: api.LeakLine, Leak: 300}, {Thresh: 1, LeakKind: api.LeakLine, Leak: api.MaxV},
		{Thresh: 1, LeakKind: api.LeakShare, Leak: 1}, {Thresh: 1, LeakKind: api.LeakShare, Leak: 100}, {Thresh: 1, LeakKind: api.LeakShare, Leak: 255}, {Thresh: 1, LeakKind: api.LeakShare, Leak: 256},
	} {
		for v := -1500; v <= 1500; v++ {
			checkLeak(t, p, v, leakModel(p, v), api.OK)
		}
		for _, v := range []int{-api.MaxV, 1 - api.MaxV, api.MaxV - 1, api.MaxV} {
			checkLeak(t, p, v, leakModel(p, v), api.OK)
		}
		for _, v := range []int{-api.MaxV - 1, api.MaxV + 1, math.MaxInt, math.MinInt} {
			checkLeak(t, p, v, 0, api.ErrRange)
		}
	}
	half := api.Params{Thresh: 1, LeakKind: api.LeakShare, Leak: 128}
	checkLeak(t, half, 7, 4, api.OK)
	checkLeak(t, half, -7, -4, api.OK)
	checkLeak(t, half, -1, -1, api.OK)
	line := api.Params{Thresh: 1, LeakKind: api.LeakLine, Leak: 3}
	checkLeak(t, line, 2, 0, api.OK)
	checkLeak(t, line, -2, 0, api.OK)
	checkLeak(t, line, -5, -2, api.OK)
	// the lower bound of the potential is not one for what the leak is asked of
	checkLeak(t, line, -api.MaxV, 3-api.MaxV, api.OK)
}

func checkLeak(t *testing.T, p api.Params, v, want int, e api.Errno) {
	t.Helper()
	if x, f := neuron.Leak(p, v); x != want || f != e {
		t.Errorf("Leak(%v, %d): %d, %d, want %d, %d", p, v, x, f, want, e)
	}
}
