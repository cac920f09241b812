package neuron_test

import (
	"slices"
	"testing"

	"ganglion/api"
	"ganglion/neuron"
)

// P1.6: the state behind a tick is valid, and between two spikes there is the time of rest.
func TestP1_6States(t *testing.T) {
	var g generator = 37
	for i := range 1000 {
		size := []int{10, 500, api.MaxV}[i%3]
		p := g.params(size)
		s, last := g.state(p), -1000
		for now, x := range g.inputs(50, 2*size) {
			after, spike := tick(t, p, s, x)
			if e := neuron.Valid(p, after); e != api.OK {
				t.Fatalf("Tick(%v, %v, %d): %v is not valid", p, s, x, after)
			}
			if spike {
				if now-last-1 < p.Rest {
					t.Fatalf("%v: spikes in the ticks %d and %d", p, last, now)
				}
				last = now
			}
			s = after
		}
	}
}

// P1.6: a rest is as long as it can be, also where the potential stays above the threshold.
func TestP1_6Rest(t *testing.T) {
	p := api.Params{Thresh: 2, ResetKind: api.ResetSub, Rest: api.MaxRest}
	l, s, e := neuron.Silent(p, api.State{V: 7}, 300)
	if !slices.Equal(l, []int{0, 65, 130}) || s != (api.State{V: 1}) || e != api.OK {
		t.Errorf("Silent: %v, %v, %d", l, s, e)
	}
}

// P1.7: more potential and more input give the first spike at the same time, or before.
func TestP1_7MoreInput(t *testing.T) {
	var g generator = 41
	for range 3000 {
		p := g.params(60)
		less := api.State{V: g.from(p.Floor, p.Thresh)}
		more := api.State{V: less.V + g.below(10)}
		for _, x := range g.inputs(40, 20) {
			var first, second bool
			less, first = tick(t, p, less, x)
			more, second = tick(t, p, more, x+g.below(3))
			if first && !second {
				t.Fatalf("%v: a spike with less input alone", p)
			}
			if first || second {
				break
			}
			if more.V < less.V {
				t.Fatalf("%v: the potential %d with more input, %d with less", p, more.V, less.V)
			}
		}
	}
}

// P1.8: silence can be cut in two, and Next is the first spike in it.
func TestP1_8Silence(t *testing.T) {
	var g generator = 43
	for range 1000 {
		p := g.params(60)
		s, n, m := g.state(p), g.below(80), g.below(80)
		whole, end, _ := neuron.Silent(p, s, n+m)
		first, middle, _ := neuron.Silent(p, s, n)
		second, after, e := neuron.Silent(p, middle, m)
		for i := range second {
			second[i] += n
		}
		if !slices.Equal(whole, append(first, second...)) || end != after || e != api.OK {
			t.Fatalf("Silent(%v, %v, %d + %d): %v, %v, in two parts %v, %v, %v, %d", p, s, n, m, whole, end, first, second, after, e)
		}
		next, _ := neuron.Next(p, s)
		if len(whole) > 0 && next != whole[0] || len(whole) == 0 && next != -1 && next < n+m {
			t.Fatalf("Next(%v, %v): %d, Silent: %v", p, s, next, whole)
		}
	}
}

// P1.8: without a bias, and below the threshold, nothing happens in silence.
func TestP1_8NoBias(t *testing.T) {
	var g generator = 47
	for range 500 {
		p := g.params(60)
		p.Bias = 0
		s := api.State{V: g.from(p.Floor, p.Thresh-1), Rest: g.from(0, p.Rest)}
		if n, e := neuron.Next(p, s); n != -1 || e != api.OK {
			t.Fatalf("Next(%v, %v): %d, %d", p, s, n, e)
		}
		for range 100 {
			after, spike := tick(t, p, s, 0)
			if spike || max(after.V, -after.V) > max(s.V, -s.V) {
				t.Fatalf("Tick(%v, %v, 0): %v, %v", p, s, after, spike)
			}
			s = after
		}
	}
}

// P1.9: a cycle comes again, with as many spikes each time.
func TestP1_9Cycles(t *testing.T) {
	var g generator = 53
	spiking := 0
	for range 1000 {
		p := g.params(60)
		s, x := g.state(p), g.from(-20, p.Thresh)
		start, period, spikes, e := neuron.Cycle(p, s, x)
		if e == api.ErrLong && p.ResetKind == api.ResetSub {
			continue // it can go up to MaxV
		}
		if e != api.OK || period < 1 || start+period > neuron.MaxPeriod {
			t.Fatalf("Cycle(%v, %v, %d): %d, %d, %d, %d", p, s, x, start, period, spikes, e)
		}
		if spikes > 0 {
			spiking++
		}
		at, _ := advance(t, p, s, x, start)
		for range 3 {
			after, n := advance(t, p, at, x, period)
			if after != at || n != spikes {
				t.Fatalf("Cycle(%v, %v, %d): %d, %d, %d, but %v comes behind %v, with %d spikes", p, s, x, start, period, spikes, after, at, n)
			}
		}
	}
	if spiking == 0 {
		t.Error("no cycle had a spike")
	}
}

// advance returns the state behind n ticks that all have one input, and how many spikes they have.
func advance(t *testing.T, p api.Params, s api.State, input, n int) (api.State, int) {
	t.Helper()
	spikes := 0
	for range n {
		var spike bool
		if s, spike = tick(t, p, s, input); spike {
			spikes++
		}
	}
	return s, spikes
}
