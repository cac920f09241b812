package verify_test

import (
	"cmp"
	"fmt"
	"slices"
	"testing"

	"ganglion/api"
	"ganglion/net"
	"ganglion/neuron"
	"ganglion/verify"
)

// Models of the functions, which follow the chapter word by word, or try everything.

// byTick is the order of events.
func byTick(a, b api.Event) int { return cmp.Or(cmp.Compare(a.Tick, b.Tick), cmp.Compare(a.Id, b.Id)) }

// shows says whether spikes show a pattern at a tick.
func shows(pattern []verify.Moment, spikes []api.Event, t int) bool {
	m := len(pattern)
	if t < m-1 {
		return false
	}
	for k, x := range pattern {
		spike := func(i int) bool { return slices.Contains(spikes, api.Event{Tick: t - m + 1 + k, Id: i}) }
		for _, i := range x.Must {
			if !spike(i) {
				return false
			}
		}
		if slices.ContainsFunc(x.Not, spike) {
			return false
		}
	}
	return true
}

// chosen returns the free events of choices, one for each tick, and with them the fixed events of these ticks.
func chosen(v verify.Env, choices []int) []api.Event {
	var l []api.Event
	for t, c := range choices {
		for k, id := range v.Free {
			if c>>k&1 == 1 {
				l = append(l, api.Event{Tick: t, Id: id})
			}
		}
	}
	for _, x := range v.Fixed {
		if x.Tick < len(choices) {
			l = append(l, x)
		}
	}
	slices.SortFunc(l, byTick)
	return l
}

// count1 is how many bits of a number are 1.
func count1(c int) int {
	n := 0
	for ; c > 0; c /= 2 {
		n += c % 2
	}
	return n
}

// eachRun does something for the choices of each run of some ticks, the least one first.
func eachRun(v verify.Env, ticks int, do func(choices []int)) {
	var choices []int
	var visit func(left int)
	visit = func(left int) {
		if len(choices) == ticks {
			do(choices)
			return
		}
		for c := range 1 << len(v.Free) {
			if n := count1(c); n <= left {
				choices = append(choices, c)
				visit(left - n)
				choices = choices[:len(choices)-1]
			}
		}
	}
	visit(v.Most)
}

// reached is what Reach returns.
type reached struct {
	run []api.Event
	at  int
	is  bool
	e   api.Errno
}

// tryRuns tries all runs.
func tryRuns(n api.Net, v verify.Env, pattern []verify.Moment, ticks int) reached {
	out := reached{at: ticks}
	eachRun(v, ticks, func(choices []int) {
		spikes, _ := net.Run(n, chosen(v, choices), ticks)
		for t := range out.at { // a later run with the same tick is not less
			if shows(pattern, spikes, t) {
				out = reached{run: chosen(v, choices[:t+1]), at: t, is: true}
				return
			}
		}
	})
	if !out.is {
		out.at = 0
	}
	return out
}

// line is a run that the model of the search keeps.
type line struct {
	sim     *net.Sim
	choices []int
	spikes  []api.Event
	left    int
}

// modelSearch keeps the least run for each situation, and compares runs only by their choices. It also returns how many
// situations there were at most.
func modelSearch(t *testing.T, n api.Net, v verify.Env, pattern []verify.Moment, ticks int) (reached, int) {
	t.Helper()
	sim, _ := net.New(n)
	lines, most := map[string]line{"": {sim: sim, left: v.Most}}, 0
	for now := range ticks {
		after := map[string]line{}
		var shown [][]int
		for _, x := range lines {
			for c := range 1 << len(v.Free) {
				if count1(c) > x.left {
					continue
				}
				y := x.follow(t, v, c)
				if shows(pattern, y.spikes, now) {
					shown = append(shown, y.choices)
				}
				name := y.situation(pattern, now)
				if z, has := after[name]; !has || slices.Compare(y.choices, z.choices) < 0 {
					after[name] = y
				}
			}
		}
		if shown != nil {
			return reached{run: chosen(v, slices.MinFunc(shown, slices.Compare[[]int])), at: now, is: true}, most
		}
		most = max(most, len(after))
		if len(after) > 5000 {
			return reached{e: api.ErrFull}, most
		}
		lines = after
	}
	return reached{}, most
}

// follow returns the run that goes on with a choice.
func (x line) follow(t *testing.T, v verify.Env, c int) line {
	t.Helper()
	y := line{sim: x.sim.Copy(), choices: append(slices.Clone(x.choices), c), spikes: slices.Clone(x.spikes), left: x.left - count1(c)}
	var ids []int
	for _, z := range chosen(v, y.choices) {
		if z.Tick == len(x.choices) {
			ids = append(ids, z.Id)
		}
	}
	spikes, e := y.sim.Step(ids)
	if e != api.OK {
		t.Fatalf("Step: %d", e)
	}
	for _, i := range spikes {
		y.spikes = append(y.spikes, api.Event{Tick: len(x.choices), Id: i})
	}
	return y
}

// situation is the string of all that a situation has.
func (x line) situation(pattern []verify.Moment, now int) string {
	image, _ := x.sim.Image()
	s := fmt.Sprint(image, x.left)
	for k := range pattern {
		s += fmt.Sprint(" ", shows(pattern[:k], x.spikes, now))
	}
	return s
}

// surroundings draws an Env with so many free inputs at most.
func (g *generator) surroundings(n api.Net, free, ticks int) verify.Env {
	v := verify.Env{Most: g.one(0, 1, 2, 3, 100)}
	var others []int
	for _, x := range all(n) {
		if len(v.Free) < free && g.below(3) > 0 {
			v.Free = append(v.Free, x)
		} else {
			others = append(others, x)
		}
	}
	v.Fixed = g.events(others, ticks+2, 5)
	return v
}

// P11.1, P11.6, G7: all runs are tried, and the same is found.
func TestP11_1AllRuns(t *testing.T) {
	var g generator = 3
	late, never, wide := 0, 0, 0
	for i := range 1500 {
		n := g.network()
		free, ticks := []int{1, 2, 3}[i%3], []int{10, 5, 4}[i%3]
		v, pattern := g.surroundings(n, free, ticks), g.pattern(n, 3)
		want := tryRuns(n, v, pattern, ticks)
		l, at, is, e := verify.Reach(n, v, pattern, ticks)
		if e != api.OK || is != want.is || at != want.at || !slices.Equal(l, want.run) {
			t.Fatalf("Reach(%+v, %+v, %+v, %d): %v, %d, %v, %d, want %+v", n, v, pattern, ticks, l, at, is, e, want)
		}
		switch {
		case !is:
			never++
		case at >= len(pattern):
			late++
		}
		if len(l) > 1 {
			wide++
		}
	}
	if late < 100 || never < 100 || wide < 50 {
		t.Errorf("%d times shown late, %d times never, %d times with several events", late, never, wide)
	}
}

// P11.1: the search is the one of the chapter, also where there are many situations, or too many.
func TestP11_1Search(t *testing.T) {
	var g generator = 5
	shown, full, large := 0, 0, 0
	for range 250 {
		n := g.network()
		if g.below(4) == 0 {
			n.Synapses = append(n.Synapses, syn(-1, 0, 1, 16), syn(-n.Inputs, 0, 9, 15))
		}
		ticks := g.from(6, 15)
		v, pattern := g.surroundings(n, 2, ticks), g.pattern(n, 4)
		want, most := modelSearch(t, n, v, pattern, ticks)
		l, at, is, e := verify.Reach(n, v, pattern, ticks)
		if e != want.e || is != want.is || at != want.at || !slices.Equal(l, want.run) {
			t.Fatalf("Reach(%+v, %+v, %+v, %d): %v, %d, %v, %d, want %+v", n, v, pattern, ticks, l, at, is, e, want)
		}
		if is {
			shown++
		}
		if e == api.ErrFull {
			full++
		}
		if most > 300 && e == api.OK {
			large++
		}
	}
	if shown < 20 || full < 2 || large < 5 {
		t.Errorf("%d times shown, %d times full, %d times large", shown, full, large)
	}
}

// P11.1: where situations repeat themselves, in whatever period, nothing is overlooked later on.
func TestP11_1LongRuns(t *testing.T) {
	var g generator = 7
	shown, never := 0, 0
	for range 300 {
		n := g.network()
		v := verify.Env{Fixed: g.events(all(n), 3, 3)}
		v.Fixed = append(v.Fixed, g.events(all(n), 900, 40)[:g.below(3)]...)
		slices.SortFunc(v.Fixed, byTick)
		v.Fixed = slices.Compact(v.Fixed)
		// a slow clock, so that neurons meet in some late tick only
		n.Neurons = append(n.Neurons, api.Params{Bias: 1, Thresh: g.from(50, 400)})
		pattern := []verify.Moment{must(len(n.Neurons)-1, g.below(len(n.Neurons)))}
		if g.below(2) == 0 {
			pattern = append(pattern, must(g.below(len(n.Neurons))))
		}
		want := reached{}
		spikes, _ := net.Run(n, v.Fixed, 1500)
		for at := range 1500 {
			if shows(pattern, spikes, at) {
				want = reached{at: at, is: true}
				break
			}
		}
		l, at, is, e := verify.Reach(n, v, pattern, 1500)
		if e != api.OK || is != want.is || at != want.at || is && !slices.Equal(l, chosen(v, make([]int, at+1))) {
			t.Fatalf("Reach(%+v, %+v, %+v): %v, %d, %v, %d, want %+v", n, v, pattern, l, at, is, e, want)
		}
		if is {
			shown++
		} else {
			never++
		}
	}
	if shown < 50 || never < 50 {
		t.Errorf("%d times shown, %d times not", shown, never)
	}
}

// between are the bounds of a case of the model.
type between struct{ lo, hi int }

// modelBounds asks at each tick what was sent, synapse by synapse.
func modelBounds(n api.Net, sure, may []api.Event, ticks int) [][]int {
	var out [][]int
	sent := func(s api.Synapse, t int) int {
		at := api.Event{Tick: t - s.Delay, Id: -1 - s.From}
		switch {
		case at.Tick < 0:
			return verify.Never
		case s.From >= 0:
			return out[at.Tick][s.From]
		case slices.Contains(sure, at):
			return verify.Always
		case slices.Contains(may, at):
			return verify.May
		}
		return verify.Never
	}
	cases := make([]map[int]between, len(n.Neurons))
	for i := range cases {
		cases[i] = map[int]between{0: {}}
	}
	for t := range ticks {
		var row []int
		for i, p := range n.Neurons {
			var input between
			for _, s := range n.Synapses {
				if s.To != i {
					continue
				}
				switch sent(s, t) {
				case verify.Always:
					input.lo += s.Weight
					input.hi += s.Weight
				case verify.May:
					input.lo += min(s.Weight, 0)
					input.hi += max(s.Weight, 0)
				}
			}
			var verdict int
			cases[i], verdict = modelCases(p, cases[i], input)
			row = append(row, verdict)
		}
		out = append(out, row)
	}
	return out
}

// modelCases does the steps 2 and 3 for a neuron.
func modelCases(p api.Params, before map[int]between, input between) (map[int]between, int) {
	after := map[int]between{}
	join := func(r int, b between) {
		if x, has := after[r]; has {
			b = between{min(x.lo, b.lo), max(x.hi, b.hi)}
		}
		after[r] = b
	}
	spike, other := false, false
	for r, b := range before {
		if r > 0 {
			other = true
			join(r-1, b)
			continue
		}
		for _, x := range []struct{ v, in *int }{{&b.lo, &input.lo}, {&b.hi, &input.hi}} {
			leaked, _ := neuron.Leak(p, *x.v)
			*x.v = min(max(leaked+*x.in+p.Bias, p.Floor), api.MaxV)
		}
		if b.hi >= p.Thresh {
			spike = true
			c := between{max(b.lo, p.Thresh), b.hi}
			if p.ResetKind == api.ResetTo {
				c = between{p.Reset, p.Reset}
			} else {
				c = between{c.lo - p.Thresh, c.hi - p.Thresh}
			}
			join(p.Rest, c)
		}
		if b.lo < p.Thresh {
			other = true
			join(0, between{b.lo, min(b.hi, p.Thresh-1)})
		}
	}
	if !spike {
		return after, verify.Never
	}
	if other {
		return after, verify.May
	}
	return after, verify.Always
}

// P11.2: the verdicts are those of the chapter.
func TestP11_2Model(t *testing.T) {
	var g generator = 9
	var seen [3]int
	for range 600 {
		n := g.network()
		if g.below(8) == 0 {
			n.Neurons[0].Rest = api.MaxRest
		}
		ticks := g.from(0, 60)
		sure, may := g.events(all(n), 50, 6), g.events(all(n), 50, 6)
		want := modelBounds(n, sure, may, ticks)
		l, e := verify.Bounds(n, sure, may, ticks)
		if e != api.OK || !slices.EqualFunc(l, want, slices.Equal[[]int]) {
			t.Fatalf("Bounds(%+v, %v, %v, %d): %v, %d, want %v", n, sure, may, ticks, l, e, want)
		}
		for _, row := range l {
			for _, x := range row {
				seen[x]++
			}
		}
	}
	if slices.Min(seen[:]) < 1000 {
		t.Errorf("so many of each verdict: %v", seen)
	}
}

// P11.2: numbers at all bounds, for all neurons that there can be.
func TestP11_2Greatest(t *testing.T) {
	var n api.Net
	n.Inputs = api.MaxInputs
	for i := range api.MaxNeurons {
		p := api.Params{LeakKind: api.LeakShare, Leak: 1, Bias: api.MaxV - 2*api.MaxV*(i%2), Thresh: api.MaxV - i%3, ResetKind: i / 2 % 2, Floor: -api.MaxV, Rest: i % (api.MaxRest + 1)}
		n.Neurons = append(n.Neurons, p)
	}
	for i := range api.MaxSynapses {
		n.Synapses = append(n.Synapses, syn(i%(api.MaxNeurons+api.MaxInputs)-api.MaxInputs, i*7%50, api.MaxWeight-2*api.MaxWeight*(i%2), 1+i%api.MaxDelay))
	}
	sure, may := ev(0, 0, 0, 255, 3, 7), ev(0, 3, 1, 0, 1, 255, 20, 9)
	want := modelBounds(n, sure, may, 30)
	if l, e := verify.Bounds(n, sure, may, 30); e != api.OK || !slices.EqualFunc(l, want, slices.Equal[[]int]) {
		t.Errorf("%d", e)
	}
}

// modelHolds looks for spikes neuron by neuron.
func modelHolds(c verify.Claim, spikes []api.Event) bool {
	if c.Kind == verify.Count {
		n := 0
		for _, i := range c.Neurons {
			for _, x := range spikes {
				if x.Id == i && c.From <= x.Tick && x.Tick < c.To {
					n++
				}
			}
		}
		return c.Lo <= n && n <= c.Hi
	}
	for t := c.From; t < c.To; t++ {
		spike := func(i int) bool { return slices.Contains(spikes, api.Event{Tick: t, Id: i}) }
		if slices.ContainsFunc(c.Neurons[1:], spike) {
			return false
		}
		if spike(c.Neurons[0]) {
			return true
		}
	}
	return false
}

// P11.3: claims hold as the chapter says, for spikes in any order, several times, and of any neurons.
func TestP11_3Model(t *testing.T) {
	var g generator = 11
	var seen [3][2]int
	for range 5000 {
		n := relay(5)
		c := g.claim(n, 12)
		var spikes []api.Event
		for range g.below(9) {
			spikes = append(spikes, api.Event{Tick: g.from(-2, 14), Id: g.from(-1, 6)})
		}
		want := modelHolds(c, spikes)
		if is, e := verify.Holds(n, c, spikes); is != want || e != api.OK {
			t.Fatalf("Holds(%+v, %v): %v, %d, want %v", c, spikes, is, e, want)
		}
		if want {
			seen[c.Kind][1]++
		} else {
			seen[c.Kind][0]++
		}
	}
	if least := min(slices.Min(seen[verify.First][:]), slices.Min(seen[verify.Count][:])); least < 200 {
		t.Errorf("so many that hold not, and hold: %v", seen)
	}
}

// modelCertain decides by the verdicts of the model.
func modelCertain(v [][]int, c verify.Claim) int {
	ticks := func(do func(t int) bool) (int, bool) { // the first tick of the claim for which it says true
		for t := c.From; t < c.To; t++ {
			if do(t) {
				return t, true
			}
		}
		return 0, false
	}
	if c.Kind == verify.Count {
		a, b := 0, 0
		for t := c.From; t < c.To; t++ {
			for _, i := range c.Neurons {
				a += v[t][i] / 2
				b += (v[t][i] + 1) / 2
			}
		}
		switch {
		case c.Lo <= a && b <= c.Hi:
			return 1
		case b < c.Lo || a > c.Hi:
			return -1
		}
		return 0
	}
	one, others := c.Neurons[0], c.Neurons[1:]
	if s, is := ticks(func(t int) bool { return v[t][one] == verify.Always }); is {
		_, other := ticks(func(t int) bool {
			return t <= s && slices.ContainsFunc(others, func(i int) bool { return v[t][i] != verify.Never })
		})
		if !other {
			return 1
		}
	}
	possible, is := ticks(func(t int) bool { return v[t][one] != verify.Never })
	if !is {
		return -1
	}
	if u, is := ticks(func(t int) bool {
		return slices.ContainsFunc(others, func(i int) bool { return v[t][i] == verify.Always })
	}); is && possible >= u {
		return -1
	}
	return 0
}

// P11.4: claims are decided as the chapter says.
func TestP11_4Model(t *testing.T) {
	var g generator = 13
	seen := map[[2]int]int{}
	for range 4000 {
		n := g.network()
		ticks := g.from(1, 20)
		sure, may := g.events(all(n), ticks, 6), g.events(all(n), ticks, 12)
		c := g.claim(n, ticks)
		want := modelCertain(modelBounds(n, sure, may, ticks), c)
		if y, e := verify.Certain(n, sure, may, ticks, c); y != want || e != api.OK {
			t.Fatalf("Certain(%+v, %v, %v, %d, %+v): %d, %d, want %d", n, sure, may, ticks, c, y, e, want)
		}
		seen[[2]int{c.Kind, want}]++
	}
	for _, kind := range []int{verify.First, verify.Count} {
		for want := -1; want <= 1; want++ {
			if seen[[2]int{kind, want}] < 100 {
				t.Errorf("so many of each kind and result: %v", seen)
			}
		}
	}
}

// lost is the option to lose an event.
const lost = -1

// options are the ticks of an event, in their order, and then lost.
func options(x api.Event, jitter int) []int {
	l := []int{x.Tick}
	for d := 1; d <= jitter; d++ {
		l = append(l, x.Tick-d, x.Tick+d)
	}
	l = slices.DeleteFunc(l, func(t int) bool { return t < 0 || t > 9999 })
	return append(l, lost)
}

// modelDisturbances counts through all options, as through the digits of a number.
func modelDisturbances(inputs []api.Event, jitter, losses int) [][]api.Event {
	var out [][]api.Event
	digits := make([]int, len(inputs))
	for {
		var l []api.Event
		gone := 0
		for i, x := range inputs {
			x.Tick = options(x, jitter)[digits[i]]
			if x.Tick == lost {
				gone++
			} else if !slices.Contains(l, x) {
				l = append(l, x)
			}
		}
		if gone <= losses {
			slices.SortFunc(l, byTick)
			out = append(out, l)
		}
		i := len(digits) - 1
		for ; i >= 0 && digits[i]+1 == len(options(inputs[i], jitter)); i-- {
			digits[i] = 0
		}
		if i < 0 {
			return out
		}
		digits[i]++
	}
}

// P11.5: disturbances are counted, and gone through, as the chapter says.
func TestP11_5Model(t *testing.T) {
	var g generator = 15
	robust, not := 0, 0
	for range 500 {
		n := g.network()
		inputs := g.events(all(n), 8, 5)
		inputs = inputs[:min(len(inputs), 4)]
		if g.below(10) == 0 {
			for i := range inputs {
				inputs[i].Tick += 9991
			}
		}
		jitter, losses := g.below(4), g.below(3)
		all := modelDisturbances(inputs, jitter, losses)
		if k, e := verify.Runs(inputs, jitter, losses); k != len(all) || e != api.OK {
			t.Fatalf("Runs(%v, %d, %d): %d, %d, want %d", inputs, jitter, losses, k, e, len(all))
		}
		ticks := g.from(5, 20)
		c := g.claim(n, ticks)
		// The claim says nearly how many spikes there are without a disturbance.
		spikes, _ := net.Run(n, inputs, ticks)
		for c.Lo, c.Hi = 0, 0; !modelHolds(c, spikes) && c.Kind == verify.Count; {
			c.Lo++
			c.Hi++
		}
		c.Lo, c.Hi = max(0, c.Lo-g.below(3)), c.Hi+g.below(3)
		want, bad := true, []api.Event(nil)
		for _, l := range all {
			spikes, _ := net.Run(n, l, ticks)
			if !modelHolds(c, spikes) {
				want, bad = false, l
				break
			}
		}
		is, l, e := verify.Robust(n, inputs, jitter, losses, ticks, c)
		if is != want || e != api.OK || !slices.Equal(l, bad) {
			t.Fatalf("Robust(%+v, %v, %d, %d, %d, %+v): %v, %v, %d, want %v, %v", n, inputs, jitter, losses, ticks, c, is, l, e, want, bad)
		}
		if is {
			robust++
		} else if !slices.Equal(bad, inputs) {
			not++
		}
	}
	if robust < 100 || not < 50 {
		t.Errorf("%d claims were robust, %d were not, but held without a disturbance", robust, not)
	}
}
