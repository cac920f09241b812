package learn_test

import (
	"slices"
	"testing"

	"ganglion/api"
	"ganglion/learn"
	"ganglion/net"
)

// total is what keeps a sum: a rule and a neuron.
type total struct{ rule, neuron int }

// totals returns the sums of weights for each rule with Sum, and each neuron.
func (x task) totals(n api.Net) map[total]int {
	l := map[total]int{}
	for i, s := range n.Synapses {
		if rule := x.plastic[i]; rule >= 0 && x.rules[rule].Sum {
			l[total{rule, s.To}] += s.Weight
		}
	}
	return l
}

// checkKept checks ranges, sums, and the weights that do not learn.
func checkKept(t *testing.T, x task, n api.Net) {
	t.Helper()
	for i, s := range n.Synapses {
		rule := x.plastic[i]
		if rule < 0 && s.Weight != x.n.Synapses[i].Weight {
			t.Fatalf("%v: the synapse %d, which does not learn, has the weight %d", x, i, s.Weight)
		}
		if rule >= 0 && (s.Weight < x.rules[rule].Lo || s.Weight > x.rules[rule].Hi) {
			t.Fatalf("%v: the synapse %d has the weight %d", x, i, s.Weight)
		}
	}
	now := x.totals(n)
	for k, sum := range x.totals(x.n) {
		if now[k] != sum {
			t.Fatalf("%v: the sum of %v is %d, was %d", x, k, now[k], sum)
		}
	}
}

// P3.6, G8: weights stay in their ranges, and sums are kept, behind every tick.
func TestP3_6RangesAndSums(t *testing.T) {
	var g generator = 29
	kept := 0
	for range 600 {
		x := g.task()
		inputs, prizes := g.events(x.n.Inputs, 60, g.from(1, 4)), g.prizes(len(x.rules), 60, g.from(1, 4))
		l := begin(t, x)
		for now := range 60 {
			ids, rewards := x.now(inputs, prizes, now)
			step(t, l, ids, rewards)
			checkKept(t, x, network(t, l))
		}
		kept += len(x.totals(x.n))
	}
	if kept < 500 {
		t.Errorf("only %d sums", kept)
	}
}

// P3.6: what is missing goes to the first ones, one by one, past those that are at their bound, and round again.
func TestP3_6OneByOne(t *testing.T) {
	r := learn.Rule{Kind: learn.Reward, Up: 1, Gain: 256, Keep: 255, Lo: 0, Hi: 9, Sum: true}
	for _, y := range []struct{ before, after []int }{
		// The last one becomes greater by up to 5, and the sum by 5 too much.
		{[]int{3, 3, 3, 2}, []int{1, 2, 2, 6}}, // 2, 2, 2, 6; 1
		{[]int{0, 2, 3, 2}, []int{0, 0, 1, 6}}, // 0, 1, 2, 6; 0, 0, 1
		{[]int{0, 0, 0, 2}, []int{0, 0, 0, 2}},
		{[]int{9, 1, 0, 2}, []int{7, 0, 0, 5}}, // 8, 0, 0, 6; 7, 0, 0, 5
	} {
		n := api.Net{Neurons: []api.Params{{Thresh: 100}}, Inputs: 3}
		for _, w := range y.before[:3] {
			n.Synapses = append(n.Synapses, syn(-1, 0, w, 16))
		}
		n.Synapses = append(n.Synapses, syn(-2, 0, y.before[3], 1), syn(-3, 0, 200, 1))
		l := begin(t, task{n, []learn.Rule{r}, []int{0, 0, 0, 0, -1}})
		step(t, l, []int{1}, nil)
		step(t, l, []int{2}, nil)
		step(t, l, nil, []int{6}) // 6 times 255 is 5 times 256, and something
		if w := weights(network(t, l))[:4]; !slices.Equal(w, y.after) {
			t.Errorf("%v: %v, want %v", y.before, w, y.after)
		}
	}
}

// P3.6: sums are only those of the synapses to one neuron with one rule, also if another rule is just the same.
func TestP3_6WhichSums(t *testing.T) {
	r := pair()
	r.Sum = true
	x := example(r)
	x.rules = append(x.rules, r)
	for _, s := range []api.Synapse{syn(-1, 1, 3, 16), syn(-1, 0, 3, 16), syn(-1, 1, 3, 16), syn(-1, 1, 3, 16)} {
		x.n.Synapses = append(x.n.Synapses, s)
	}
	x.plastic = []int{-1, -1, 0, 1, 0, -1, 0}
	_, n := train(t, x, ev(0, 0, 2, 1), nil, 10)
	if w := weights(n); !slices.Equal(w, []int{5, 5, 3, 3, 3, 3, 2}) {
		t.Errorf("the weights: %v", w)
	}
}

// P3.6: a network that has all it can have, whose weights all go to their bounds, and back, in each tick.
func TestP3_6Greatest(t *testing.T) {
	var g generator = 31
	x := task{n: api.Net{Neurons: []api.Params{{Bias: 1, Thresh: 1}}, Inputs: 1}}
	x.rules = []learn.Rule{{Kind: learn.Reward, Up: 255, Down: 1, Gain: 4096, Keep: 255, Fade: 255, Lo: -255, Hi: 255, Sum: true}}
	for range api.MaxSynapses {
		x.n.Synapses = append(x.n.Synapses, syn(-1, 0, g.one(-255, 0, 255, 255, 7), g.from(1, 16)))
		x.plastic = append(x.plastic, 0)
	}
	l, m := begin(t, x), newModel(x)
	for now := range 60 {
		var inputs []int
		if now%3 == 0 {
			inputs = []int{0}
		}
		rewards := []int{[]int{0, 127, -128, 1, -1}[now%5]}
		step(t, l, inputs, rewards)
		m.step(inputs, rewards)
		n := network(t, l)
		checkKept(t, x, n)
		for i := range m.marks {
			if n.Synapses[i].Weight != m.marks[i].Weight {
				t.Fatalf("the tick %d: the weight %d is %d, want %d", now, i, n.Synapses[i].Weight, m.marks[i].Weight)
			}
		}
	}
}

// P3.7, G1: without changes the weights stay, and the spikes are those of net.Run.
func TestP3_7WithoutChanges(t *testing.T) {
	var g generator = 37
	spikes := 0
	for range 800 {
		x := g.task()
		prizes := g.prizes(len(x.rules), 100, 3)
		for i := range x.rules {
			if r := &x.rules[i]; r.Kind == learn.Pair || g.below(2) == 0 {
				r.Up, r.Down = 0, 0
			} else {
				for k := range prizes {
					if prizes[k].Rule == i {
						prizes[k].Value = 0
					}
				}
			}
		}
		inputs := g.events(x.n.Inputs, 100, g.from(1, 10))
		want, e := net.Run(x.n, inputs, 100)
		if e != api.OK {
			t.Fatalf("Run(%v): %d", x.n, e)
		}
		l, n := train(t, x, inputs, prizes, 100)
		if !slices.Equal(l, want) || !sameNet(n, x.n) {
			t.Fatalf("Train(%v, %v): %v, %v, want %v", x, inputs, l, n, want)
		}
		spikes += len(l)
	}
	if spikes < 10000 {
		t.Errorf("there were only %d spikes in all", spikes)
	}
}

// P3.8: the first pair changes a weight by what Window says, as far as the bounds allow.
func TestP3_8Windows(t *testing.T) {
	var g generator = 41
	changed, cut := 0, 0
	for range 4000 {
		r := g.rule()
		r.Kind, r.Fade, r.Sum = learn.Pair, 0, false
		if g.below(2) == 0 {
			r.Shift = 16
		}
		gap, weight, delay := g.from(-20, 20), g.from(r.Lo, r.Hi), g.from(1, api.MaxDelay)
		// The first synapse is enough for a spike whatever else arrives; the second one, which learns, never is, and
		// nothing remains of what arrived.
		n := api.Net{Neurons: []api.Params{{LeakKind: api.LeakShare, Leak: 256, Thresh: 1000}}, Inputs: 2}
		n.Synapses = []api.Synapse{syn(-1, 0, 2000, 1), syn(-2, 0, weight, delay)}
		spike := g.from(40, 50)
		inputs := ev(spike-1, 0, spike-gap-delay, 1)
		slices.SortFunc(inputs, func(a, b api.Event) int {
			if a.Tick != b.Tick {
				return a.Tick - b.Tick
			}
			return a.Id - b.Id
		})
		l, m := train(t, task{n, []learn.Rule{r}, []int{-1, 0}}, inputs, nil, 80)
		if !slices.Equal(l, ev(spike, 0)) {
			t.Fatalf("the spikes: %v", l)
		}
		c := window(t, r, gap)
		want := bounded(weight+c, r.Lo, r.Hi)
		if w := m.Synapses[1].Weight; w != want {
			t.Fatalf("%v, the gap %d: the weight %d, was %d, want %d", r, gap, w, weight, want)
		}
		if gap < 0 && c > 0 || gap > 0 && c < 0 || gap == 0 && c != 0 {
			t.Fatalf("%v, the gap %d: %d", r, gap, c)
		}
		if want != weight+c {
			cut++
		} else if c != 0 {
			changed++
		}
	}
	if changed < 100 || cut < 100 {
		t.Errorf("only %d weights changed, and %d were at a bound", changed, cut)
	}
}

// P3.9: with the kind Pair, weights go one way if Down, or Up, is 0.
func TestP3_9OneWay(t *testing.T) {
	var g generator = 43
	up, down := 0, 0
	for range 1000 {
		x := g.task()
		for i := range x.rules {
			r := &x.rules[i]
			r.Kind, r.Fade, r.Sum = learn.Pair, 0, false
			if i%2 == 0 {
				r.Down = 0
			} else {
				r.Up = 0
			}
		}
		l, before := begin(t, x), x.n
		inputs := g.events(x.n.Inputs, 60, g.from(1, 8))
		for now := range 60 {
			ids, _ := x.now(inputs, nil, now)
			step(t, l, ids, nil)
			n := network(t, l)
			for i, rule := range x.plastic {
				change := n.Synapses[i].Weight - before.Synapses[i].Weight
				if rule >= 0 && (rule%2 == 0 && change < 0 || rule%2 == 1 && change > 0) {
					t.Fatalf("%v, the tick %d: the weight of the synapse %d changed by %d", x, now, i, change)
				}
				if change > 0 {
					up++
				} else if change < 0 {
					down++
				}
			}
			before = n
		}
	}
	if up < 300 || down < 300 {
		t.Errorf("only %d weights became greater, and %d less", up, down)
	}
}

// P3.9: with the kind Reward, opposite rewards change weights by opposite numbers, as far as the bounds allow.
func TestP3_9Opposite(t *testing.T) {
	var g generator = 47
	changed := 0
	for range 400 {
		x := g.task()
		for i := range x.rules {
			x.rules[i].Kind, x.rules[i].Sum = learn.Reward, false
			x.rules[i].Shift = g.from(6, 16)
		}
		l := begin(t, x)
		inputs, prizes := g.events(x.n.Inputs, 60, g.from(1, 8)), g.prizes(len(x.rules), 60, g.from(1, 8))
		for now := range 60 {
			ids, rewards := x.now(inputs, prizes, now)
			var good, bad []int
			for range x.rules {
				v := g.from(-127, 127)
				good, bad = append(good, v), append(bad, -v)
			}
			a, b, before := l.Copy(), l.Copy(), network(t, l)
			step(t, a, ids, good)
			step(t, b, ids, bad)
			for i, rule := range x.plastic {
				if rule < 0 {
					continue
				}
				y, z, r, w := mark(t, a, i), mark(t, b, i), x.rules[rule], before.Synapses[i].Weight
				up, down := y.Weight-w, z.Weight-w
				bound := y.Weight == r.Lo || y.Weight == r.Hi || z.Weight == r.Lo || z.Weight == r.Hi
				if up != -down && !bound || up > 0 && down > 0 || up < 0 && down < 0 {
					t.Fatalf("%v, the tick %d: the weight %d of the synapse %d becomes %d and %d", x, now, w, i, y.Weight, z.Weight)
				}
				if up != 0 && up == -down {
					changed++
				}
			}
			step(t, l, ids, rewards)
		}
	}
	if changed < 300 {
		t.Errorf("only %d weights changed by opposite numbers", changed)
	}
}
