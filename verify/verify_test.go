package verify_test

import (
	"math"
	"reflect"
	"slices"
	"testing"

	"ganglion/api"
	"ganglion/net"
	"ganglion/verify"
)

// generator is the one of the document.
type generator uint64

func (g *generator) below(n int) int {
	*g = *g*6364136223846793005 + 1442695040888963407
	return int(uint64(*g)>>33) % n
}

func (g *generator) from(least, most int) int { return least + g.below(most-least+1) }

func (g *generator) one(l ...int) int { return l[g.below(len(l))] }

func syn(from, to, weight, delay int) api.Synapse {
	return api.Synapse{From: from, To: to, Weight: weight, Delay: delay}
}

// ev returns events, of which Tick and Id are given in turns.
func ev(l ...int) []api.Event {
	var out []api.Event
	for i := 0; i < len(l); i += 2 {
		out = append(out, api.Event{Tick: l[i], Id: l[i+1]})
	}
	return out
}

func must(l ...int) verify.Moment { return verify.Moment{Must: l} }

func not(l ...int) verify.Moment { return verify.Moment{Not: l} }

func first(from, to int, l ...int) verify.Claim {
	return verify.Claim{Kind: verify.First, Neurons: l, From: from, To: to}
}

func count(from, to, lo, hi int, l ...int) verify.Claim {
	return verify.Claim{Kind: verify.Count, Neurons: l, From: from, To: to, Lo: lo, Hi: hi}
}

// chain is the network E of the document.
func chain() api.Net {
	a := api.Params{LeakKind: api.LeakLine, Leak: 1, Thresh: 5, Floor: -4, Rest: 1}
	return api.Net{Neurons: []api.Params{a, a}, Inputs: 1, Synapses: []api.Synapse{syn(-1, 0, 6, 1), syn(0, 1, 6, 3)}}
}

// relay has for each input a neuron that has a spike one tick behind each event.
func relay(inputs int) api.Net {
	n := api.Net{Inputs: inputs}
	for i := range inputs {
		n.Neurons = append(n.Neurons, api.Params{Thresh: 1})
		n.Synapses = append(n.Synapses, syn(-1-i, i, 1, 1))
	}
	return n
}

// beats are so many neurons that spike in every tick, and an input that does nothing.
func beats(n int) api.Net {
	return api.Net{Neurons: slices.Repeat([]api.Params{{Thresh: 1, Bias: 1}}, n), Inputs: 1}
}

// network draws a small valid network, of which the neurons spike now and then.
func (g *generator) network() api.Net {
	n := api.Net{Inputs: g.from(1, 3)}
	for range g.from(1, 3) {
		n.Neurons = append(n.Neurons, g.params())
	}
	for range g.from(2, 8) {
		from, weight := g.from(-n.Inputs, len(n.Neurons)-1), g.from(-4, 7)
		n.Synapses = append(n.Synapses, syn(from, g.below(len(n.Neurons)), weight, g.one(1, 1, 2, 3, 16)))
	}
	return n
}

func (g *generator) params() api.Params {
	p := api.Params{LeakKind: g.below(3), Bias: g.one(0, 0, 0, -1, 1, 2), Thresh: g.from(1, 6), ResetKind: g.below(2), Floor: -g.below(7), Rest: g.one(0, 0, 1, 2, 3)}
	switch p.LeakKind {
	case api.LeakLine:
		p.Leak = g.from(1, 3)
	case api.LeakShare:
		p.Leak = g.one(1, 100, 128, 256)
	}
	if p.ResetKind == api.ResetTo {
		p.Reset = g.from(p.Floor, p.Thresh-1)
	}
	return p
}

// events draws events at these inputs, in order.
func (g *generator) events(inputs []int, ticks, rare int) []api.Event {
	var l []api.Event
	for t := range ticks {
		for _, x := range inputs {
			if g.below(rare) == 0 {
				l = append(l, api.Event{Tick: t, Id: x})
			}
		}
	}
	return l
}

// all are the numbers of all inputs of a network.
func all(n api.Net) []int {
	var l []int
	for i := range n.Inputs {
		l = append(l, i)
	}
	return l
}

// pattern draws a pattern of at most so many moments.
func (g *generator) pattern(n api.Net, most int) []verify.Moment {
	l := make([]verify.Moment, g.from(1, most))
	for k := range l {
		for i := range n.Neurons {
			switch g.below(5) {
			case 0, 1:
				l[k].Must = append(l[k].Must, i)
			case 2:
				l[k].Not = append(l[k].Not, i)
			}
		}
	}
	return l
}

// claim draws a valid claim about some neurons in some of the ticks.
func (g *generator) claim(n api.Net, ticks int) verify.Claim {
	c := verify.Claim{Kind: g.one(verify.First, verify.Count), From: g.below(ticks + 1), Lo: g.below(4), Hi: g.below(8)}
	c.From = g.one(0, c.From)
	c.To = g.one(ticks, g.from(c.From, ticks))
	for i := range n.Neurons {
		if g.below(3) > 0 || i == len(n.Neurons)-1 && c.Neurons == nil {
			c.Neurons = slices.Insert(c.Neurons, g.below(len(c.Neurons)+1), i)
		}
	}
	return c
}

// args are what the functions get.
type args struct {
	n              api.Net
	v              verify.Env
	pattern        []verify.Moment
	sure, may      []api.Event
	jitter, losses int
	ticks          int
	c              verify.Claim
	spikes         []api.Event
}

// fault makes arguments wrong.
type fault struct {
	name string
	want api.Errno
	do   func(a *args)
}

// checkFaults examines each fault, and each two of them, where the first one decides (R1). They are in the order in which
// the document names them.
func checkFaults(t *testing.T, good func() args, call func(a args) (any, api.Errno), faults ...fault) {
	t.Helper()
	if _, e := call(good()); e != api.OK {
		t.Fatalf("without a fault: %d", e)
	}
	for i, x := range faults {
		for _, y := range faults[i:] {
			a := good()
			y.do(&a)
			x.do(&a)
			if out, e := call(a); e != x.want || !reflect.ValueOf(out).IsZero() {
				t.Errorf("%s, and %s: %v, %d, want the error %d", x.name, y.name, out, e, x.want)
			}
		}
	}
}

// The faults of a network, of events, of ticks and of claims; all of them are those of several functions.
func noNeurons() fault { return fault{"no neurons", api.ErrArg, func(a *args) { a.n.Neurons = nil }} }

func wrongSynapse() fault {
	return fault{"a synapse from nowhere", api.ErrRange, func(a *args) { a.n.Synapses = []api.Synapse{syn(-9, 0, 1, 1)} }}
}

func wrongEvents(name string, list func(a *args) *[]api.Event) []fault {
	set := func(l []api.Event) func(a *args) { return func(a *args) { *list(a) = l } }
	return []fault{
		{name + ": too many", api.ErrMany, set(make([]api.Event, api.MaxEvents+1))},
		{name + ": an input that does not exist", api.ErrRange, set(ev(1, 1, 0, 2, 0, 0))},
		{name + ": a tick below 0", api.ErrRange, set(ev(-1, 1))},
		{name + ": a tick that is too late", api.ErrRange, set(ev(api.MaxTicks, 1))},
		{name + ": out of order", api.ErrArg, set(ev(1, 1, 0, 1, 0, 9))},
		{name + ": the same twice", api.ErrArg, set(ev(3, 1, 3, 1))},
	}
}

func wrongTicks() []fault {
	var l []fault
	for _, x := range []int{-1, api.MaxTicks + 1, math.MinInt, math.MaxInt} {
		l = append(l, fault{"ticks", api.ErrRange, func(a *args) { a.ticks = x }})
	}
	return l
}

func wrongClaim() []fault {
	times := func(from, to int) func(a *args) {
		return func(a *args) { a.c.From, a.c.To = from, to }
	}
	return []fault{
		{"kind 0", api.ErrArg, func(a *args) { a.c.Kind = 0 }},
		{"kind 3", api.ErrArg, func(a *args) { a.c.Kind = 3 }},
		{"kind -1", api.ErrArg, func(a *args) { a.c.Kind = math.MinInt }},
		{"no neurons of the claim", api.ErrArg, func(a *args) { a.c.Neurons = []int{} }},
		{"a neuron that does not exist", api.ErrRange, func(a *args) { a.c.Neurons = []int{0, 2, 0} }},
		{"a neuron below 0", api.ErrRange, func(a *args) { a.c.Neurons = []int{-1} }},
		{"a neuron twice", api.ErrHave, func(a *args) { a.c.Neurons = []int{1, 0, 1, 2} }},
		{"from below 0", api.ErrRange, times(-1, 3)},
		{"from above to", api.ErrRange, times(4, 3)},
		{"to above all ticks", api.ErrRange, times(0, api.MaxTicks+1)},
		{"extreme times", api.ErrRange, times(math.MinInt, math.MaxInt)},
		{"lo", api.ErrRange, func(a *args) { a.c.Lo = -1 }},
		{"hi", api.ErrRange, func(a *args) { a.c.Hi = math.MinInt }},
	}
}

// good are arguments without a fault for all functions.
func good() args {
	n := relay(2)
	return args{
		n:       n,
		v:       verify.Env{Free: []int{0}, Fixed: ev(0, 1, 3, 1), Most: 2},
		pattern: []verify.Moment{must(0), not(1)},
		sure:    ev(0, 0, 4, 1),
		may:     ev(2, 0, 4, 1),
		jitter:  1, losses: 1,
		ticks: 9,
		c:     count(1, 8, 0, 3, 1, 0),
	}
}

// P11.1: the events of the least run, and the tick, for the examples and the edges.
func TestP11_1Reach(t *testing.T) {
	two := chain()
	two.Inputs = 2
	late := chain()
	late.Synapses[0].Delay = 16
	eight := slices.Repeat([]verify.Moment{must(0)}, 8)
	for name, x := range map[string]struct {
		n       api.Net
		v       verify.Env
		pattern []verify.Moment
		ticks   int
		run     []api.Event
		at      int
		is      bool
	}{
		"one event":                {chain(), verify.Env{Free: []int{0}, Most: 1}, []verify.Moment{must(1)}, 10, ev(0, 0), 4, true},
		"in the last tick":         {chain(), verify.Env{Free: []int{0}, Most: 1}, []verify.Moment{must(1)}, 5, ev(0, 0), 4, true},
		"one tick too few":         {chain(), verify.Env{Free: []int{0}, Most: 1}, []verify.Moment{must(1)}, 4, nil, 0, false},
		"two moments":              {chain(), verify.Env{Free: []int{0}, Most: 1}, []verify.Moment{must(1), must(0)}, 10, nil, 0, false},
		"two moments, two events":  {chain(), verify.Env{Free: []int{0}, Most: 2}, []verify.Moment{must(1), must(0)}, 10, ev(0, 0, 4, 0), 5, true},
		"no ticks":                 {chain(), verify.Env{}, []verify.Moment{{}}, 0, nil, 0, false},
		"at once":                  {chain(), verify.Env{}, []verify.Moment{not(0, 1)}, 1, nil, 0, true},
		"as many ticks as moments": {chain(), verify.Env{}, make([]verify.Moment, 8), 8, nil, 7, true},
		"fewer ticks than moments": {chain(), verify.Env{}, make([]verify.Moment, 8), 7, nil, 0, false},
		"all ticks":                {chain(), verify.Env{Free: []int{0}, Most: 3}, []verify.Moment{{Must: []int{0}, Not: []int{0}}}, 10000, nil, 0, false},
		"a fixed event at the end": {chain(), verify.Env{Fixed: ev(9998, 0)}, []verify.Moment{must(0)}, 10000, ev(9998, 0), 9999, true},
		"fixed events up to t":     {two, verify.Env{Free: []int{0}, Fixed: ev(2, 1, 4, 1, 5, 1), Most: 1}, []verify.Moment{must(1)}, 9, ev(0, 0, 2, 1, 4, 1), 4, true},
		"fixed in the same tick":   {relay(3), verify.Env{Free: []int{0, 2}, Fixed: ev(1, 1, 3, 1), Most: 2}, []verify.Moment{must(0, 1, 2)}, 9, ev(1, 0, 1, 1, 1, 2), 2, true},
		"only the second fits":     {relay(2), verify.Env{Free: []int{0}, Fixed: ev(1, 1, 3, 1), Most: 1}, []verify.Moment{not(1), must(0, 1)}, 9, ev(1, 0, 1, 1), 2, true},
		"the least of late ones":   {relay(2), verify.Env{Free: []int{0, 1}, Most: 1}, []verify.Moment{{}, {}, {}, {Not: []int{0}}}, 9, nil, 3, true},
		"any one of two":           {relay(2), verify.Env{Free: []int{0, 1}, Most: 1}, []verify.Moment{not(1), {}, must(1)}, 9, ev(1, 1), 2, true},
		"the greatest delay":       {late, verify.Env{Free: []int{0}, Most: 1}, []verify.Moment{must(1)}, 30, ev(0, 0), 19, true},
		"eight in a row":           {relay(1), verify.Env{Free: []int{0}, Most: 8}, eight, 20, ev(0, 0, 1, 0, 2, 0, 3, 0, 4, 0, 5, 0, 6, 0, 7, 0), 8, true},
		"seven events only":        {relay(1), verify.Env{Free: []int{0}, Most: 7}, eight, 20, nil, 0, false},
		"more than there can be":   {relay(1), verify.Env{Free: []int{0}, Most: math.MaxInt}, eight, 20, ev(0, 0, 1, 0, 2, 0, 3, 0, 4, 0, 5, 0, 6, 0, 7, 0), 8, true},
		"six free inputs":          {relay(6), verify.Env{Free: []int{0, 1, 2, 3, 4, 5}, Most: 6}, []verify.Moment{must(5, 0, 1, 2, 4, 3, 0)}, 4, ev(0, 0, 0, 1, 0, 2, 0, 3, 0, 4, 0, 5), 1, true},
		"five events only":         {relay(6), verify.Env{Free: []int{0, 1, 2, 3, 4, 5}, Most: 5}, []verify.Moment{must(5, 0, 1, 2, 4, 3, 0)}, 4, nil, 0, false},
		"some of the inputs":       {relay(9), verify.Env{Free: []int{2, 7}, Most: 3}, []verify.Moment{must(7), must(2)}, 9, ev(0, 7, 1, 2), 2, true},
		"not a free one":           {relay(9), verify.Env{Free: []int{2, 7}, Most: 3}, []verify.Moment{must(3)}, 9, nil, 0, false},
	} {
		l, at, is, e := verify.Reach(x.n, x.v, x.pattern, x.ticks)
		if e != api.OK || is != x.is || at != x.at || !slices.Equal(l, x.run) {
			t.Errorf("%s: %v, %d, %v, %d, want %v, %d, %v", name, l, at, is, e, x.run, x.at, x.is)
		}
	}
}

// P11.1: of runs with the same tick the least one is found: with an event as late as possible, and then at the first input.
func TestP11_1LeastRun(t *testing.T) {
	// The neuron 0 counts events up to 2, and the neuron 1 has spikes in the ticks 4, 9, and so on.
	n := api.Net{Neurons: []api.Params{{Thresh: 2}, {Thresh: 5, Bias: 1}}, Inputs: 2, Synapses: []api.Synapse{syn(-1, 0, 1, 1), syn(-2, 0, 1, 1)}}
	v := verify.Env{Free: []int{0, 1}, Most: 2}
	both := []verify.Moment{must(0, 1)}
	if l, at, is, e := verify.Reach(n, v, both, 20); !slices.Equal(l, ev(3, 0, 3, 1)) || at != 4 || !is || e != api.OK {
		t.Errorf("both inputs: %v, %d, %v, %d", l, at, is, e)
	}
	v.Free = []int{0}
	if l, at, is, e := verify.Reach(n, v, both, 20); !slices.Equal(l, ev(2, 0, 3, 0)) || at != 4 || !is || e != api.OK {
		t.Errorf("the first input alone: %v, %d, %v, %d", l, at, is, e)
	}
	// Two spikes need four events; the least run has none before the tick 1, though there it has two.
	v = verify.Env{Free: []int{0, 1}, Most: 9}
	if l, at, is, e := verify.Reach(n, v, []verify.Moment{must(0), {}, must(0, 1)}, 20); !slices.Equal(l, ev(1, 0, 1, 1, 3, 0, 3, 1)) || at != 4 || !is || e != api.OK {
		t.Errorf("two spikes: %v, %d, %v, %d", l, at, is, e)
	}
	// One event is enough here, and no other one is in the least run.
	n.Neurons[0].Thresh = 1
	if l, at, is, e := verify.Reach(n, v, both, 20); !slices.Equal(l, ev(3, 0)) || at != 4 || !is || e != api.OK {
		t.Errorf("one event: %v, %d, %v, %d", l, at, is, e)
	}
}

// P11.1: the same image is not the same situation, if there can be fewer events, or if other moments were shown.
func TestP11_1Situations(t *testing.T) {
	// An event at the input 0 does nothing, but is counted. The run with none of these is found, though it is not the least.
	idle := relay(2)
	idle.Synapses = idle.Synapses[1:]
	v := verify.Env{Free: []int{0, 1}, Most: 2}
	if l, at, is, e := verify.Reach(idle, v, []verify.Moment{must(1), must(1)}, 9); !slices.Equal(l, ev(0, 1, 1, 1)) || at != 2 || !is || e != api.OK {
		t.Errorf("events left: %v, %d, %v, %d", l, at, is, e)
	}
	// Behind a spike of the neuron 0 the network is as it was; but the first moment was shown.
	n := relay(1)
	for k, want := range [][]api.Event{nil, ev(0, 0), ev(0, 0), ev(0, 0)} {
		pattern := make([]verify.Moment, k+1)
		if k > 0 {
			pattern[0] = must(0)
		}
		at := k
		if k > 0 {
			at++
		}
		if l, tick, is, e := verify.Reach(n, verify.Env{Free: []int{0}, Most: 1}, pattern, 9); !slices.Equal(l, want) || tick != at || !is || e != api.OK {
			t.Errorf("%d moments: %v, %d, %v, %d, want %v, %d", k+1, l, tick, is, e, want, at)
		}
	}
}

// clocks has for each delay an input, and a neuron whose potential says for how many ticks no event has arrived there; and
// besides a neuron that relays an input of its own. With at most two free events, behind 17 ticks there are these
// situations, if all delays are below 16: 1 + 102 + 102 101 / 2 for no event, one and two; but of two events at the
// same input only the last one counts, if both have arrived. So for a delay d these are fewer by (16 - d) (15 - d) / 2.
func clocks(delays ...int) api.Net {
	n := api.Net{Inputs: len(delays) + 1}
	for i, d := range delays {
		n.Neurons = append(n.Neurons, api.Params{Thresh: api.MaxV, Bias: 1})
		n.Synapses = append(n.Synapses, syn(-1-i, i, -api.MaxWeight, d))
	}
	n.Neurons = append(n.Neurons, api.Params{Thresh: 1})
	n.Synapses = append(n.Synapses, syn(-1-len(delays), len(delays), 1, 1))
	return n
}

// P11.1: the search gives up with more than 5,000 situations, but not with 5,000, and not if the pattern is shown.
func TestP11_1Full(t *testing.T) {
	less := clocks(1, 1, 7, 12, 14, 14) // 5,000 behind the tick 16
	more := clocks(1, 1, 7, 12, 14, 15) // 5,001
	free := []int{0, 1, 2, 3, 4, 5}
	never := []verify.Moment{{Must: []int{0}, Not: []int{0}}}
	relayed := []verify.Moment{must(6)}
	for name, x := range map[string]struct {
		n       api.Net
		fixed   []api.Event
		pattern []verify.Moment
		ticks   int
		at      int
		is      bool
		e       api.Errno
	}{
		"5,000":               {less, nil, never, 17, 0, false, api.OK},
		"more a tick later":   {less, nil, never, 18, 0, false, api.ErrFull},
		"fewer a tick before": {more, nil, never, 16, 0, false, api.OK},
		"5,001":               {more, nil, never, 17, 0, false, api.ErrFull},
		"long before the end": {more, nil, never, 10000, 0, false, api.ErrFull},
		"shown before":        {more, ev(14, 6), relayed, 17, 15, true, api.OK},
		"shown then":          {more, ev(15, 6), relayed, 17, 16, true, api.OK},
		"shown too late":      {more, ev(16, 6), relayed, 18, 0, false, api.ErrFull},
		"shown with 5,000":    {less, ev(16, 6), relayed, 18, 17, true, api.OK},
	} {
		l, at, is, e := verify.Reach(x.n, verify.Env{Free: free, Fixed: x.fixed, Most: 2}, x.pattern, x.ticks)
		if at != x.at || is != x.is || e != x.e || is && !slices.Equal(l, x.fixed) || !is && len(l) > 0 {
			t.Errorf("%s: %v, %d, %v, %d, want %d, %v, %d", name, l, at, is, e, x.at, x.is, x.e)
		}
	}
}

// P11.1: the pattern is also found where only the last one of many situations leads to it.
func TestP11_1LastSituation(t *testing.T) {
	n := relay(6)
	n.Neurons = append(n.Neurons, api.Params{Thresh: 6, LeakKind: api.LeakShare, Leak: 256})
	for i := range 6 {
		n.Synapses = append(n.Synapses, syn(-1-i, 6, 1, 2))
	}
	v := verify.Env{Free: []int{0, 1, 2, 3, 4, 5}, Most: 6}
	// With all 6 events in the tick 0; behind the tick 2 there are more situations than the search can keep.
	want := ev(0, 0, 0, 1, 0, 2, 0, 3, 0, 4, 0, 5)
	if l, at, is, e := verify.Reach(n, v, []verify.Moment{must(6)}, 9); !slices.Equal(l, want) || at != 2 || !is || e != api.OK {
		t.Errorf("%v, %d, %v, %d", l, at, is, e)
	}
}

// P11.1, R1, R2: the errors of Reach, in their order.
func TestP11_1Errors(t *testing.T) {
	free := func(l ...int) func(a *args) { return func(a *args) { a.v.Free = l } }
	faults := []fault{noNeurons(), wrongSynapse(),
		{"seven free inputs", api.ErrMany, free(0, 0, 9, 3, 4, 5, 6)},
		{"a free input that does not exist", api.ErrRange, free(0, 2, 1)},
		{"a free input below 0", api.ErrRange, free(-1, -1)},
		{"free inputs that do not ascend", api.ErrArg, free(1, 0, 9)},
		{"a free input twice", api.ErrArg, free(1, 1)},
	}
	faults = append(faults, wrongEvents("fixed", func(a *args) *[]api.Event { return &a.v.Fixed })...)
	faults = append(faults,
		fault{"a fixed event at a free input", api.ErrConflict, func(a *args) { a.v.Free, a.v.Fixed = []int{0}, ev(1, 1, 9999, 0) }},
		fault{"most", api.ErrRange, func(a *args) { a.v.Most = -1 }},
		fault{"the least most", api.ErrRange, func(a *args) { a.v.Most = math.MinInt }},
		fault{"nine moments", api.ErrMany, func(a *args) { a.pattern = slices.Repeat([]verify.Moment{must(9)}, 9) }},
		fault{"no moments", api.ErrArg, func(a *args) { a.pattern = []verify.Moment{} }},
		fault{"no pattern", api.ErrArg, func(a *args) { a.pattern = nil }},
		fault{"must have what does not exist", api.ErrRange, func(a *args) { a.pattern = []verify.Moment{{}, must(0, 2)} }},
		fault{"must not have what does not exist", api.ErrRange, func(a *args) { a.pattern = []verify.Moment{{}, not(0, -1)} }})
	faults = append(faults, wrongTicks()...)
	checkFaults(t, good, func(a args) (any, api.Errno) {
		l, at, is, e := verify.Reach(a.n, a.v, a.pattern, a.ticks)
		return struct {
			l  []api.Event
			at int
			is bool
		}{l, at, is}, e
	}, faults...)
}

// P11.2: the verdicts of the examples, and of the edges.
func TestP11_2Bounds(t *testing.T) {
	// verdicts are as many rows, of which some verdicts are given as tick, neuron, verdict; the others are Never.
	verdicts := func(n api.Net, ticks int, l ...int) [][]int {
		out := make([][]int, ticks)
		for i := range out {
			out[i] = make([]int, len(n.Neurons))
		}
		for i := 0; i < len(l); i += 3 {
			out[l[i]][l[i+1]] = l[i+2]
		}
		return out
	}
	rest := relay(1)
	rest.Neurons[0].Rest = 2
	late := relay(1)
	late.Synapses[0].Delay = 16
	flood := api.Net{Neurons: []api.Params{{Thresh: api.MaxV / 2, ResetKind: api.ResetSub}}, Inputs: 1, Synapses: slices.Repeat([]api.Synapse{syn(-1, 0, api.MaxWeight, 1)}, 128)}
	for name, x := range map[string]struct {
		n         api.Net
		sure, may []api.Event
		ticks     int
		want      []int
	}{
		"sure and may":               {chain(), ev(0, 0), ev(2, 0), 7, []int{1, 0, 2, 3, 0, 1, 4, 1, 2, 6, 1, 1}},
		"both":                       {relay(1), ev(2, 0), ev(2, 0, 3, 0), 6, []int{3, 0, 2, 4, 0, 1}},
		"no events":                  {chain(), nil, nil, 3, nil},
		"no ticks":                   {chain(), ev(0, 0), nil, 0, nil},
		"events behind":              {relay(1), ev(3, 0), ev(5, 0), 4, nil},
		"resting for sure":           {rest, ev(0, 0, 1, 0, 2, 0, 3, 0), nil, 5, []int{1, 0, 2, 4, 0, 2}},
		"resting perhaps":            {rest, ev(1, 0), ev(0, 0), 5, []int{1, 0, 1, 2, 0, 1}},
		"awake again":                {rest, ev(3, 0), ev(0, 0), 5, []int{1, 0, 1, 4, 0, 2}},
		"all delays":                 {late, ev(1, 0), ev(0, 0), 18, []int{16, 0, 1, 17, 0, 2}},
		"a bias":                     {beats(2), nil, nil, 2, []int{0, 0, 2, 0, 1, 2, 1, 0, 2, 1, 1, 2}},
		"two may, each one alone":    {api.Net{Neurons: []api.Params{{Thresh: 1}}, Inputs: 2, Synapses: []api.Synapse{syn(-1, 0, 2, 1), syn(-2, 0, -1, 1)}}, ev(0, 0), ev(0, 1), 2, []int{1, 0, 2}},
		"inhibited perhaps":          {api.Net{Neurons: []api.Params{{Thresh: 2}}, Inputs: 2, Synapses: []api.Synapse{syn(-1, 0, 2, 1), syn(-2, 0, -1, 1)}}, ev(0, 0), ev(0, 1), 2, []int{1, 0, 1}},
		"kept below the threshold":   {api.Net{Neurons: []api.Params{{Thresh: 4, Floor: -9}}, Inputs: 1, Synapses: []api.Synapse{syn(-1, 0, 9, 1), syn(-1, 0, -8, 2)}}, nil, ev(0, 0), 4, []int{1, 0, 1}},
		"no more than MaxV, surely":  {flood, ev(0, 0), nil, 5, []int{1, 0, 2, 2, 0, 2}},
		"no more than MaxV, perhaps": {flood, nil, ev(0, 0), 5, []int{1, 0, 1, 2, 0, 1}},
		"what is above remains":      {api.Net{Neurons: []api.Params{{Thresh: 4, ResetKind: api.ResetSub}}, Inputs: 1, Synapses: []api.Synapse{syn(-1, 0, 9, 1)}}, nil, ev(0, 0), 4, []int{1, 0, 1, 2, 0, 1}},
	} {
		want := verdicts(x.n, x.ticks, x.want...)
		if l, e := verify.Bounds(x.n, x.sure, x.may, x.ticks); e != api.OK || !slices.EqualFunc(l, want, slices.Equal[[]int]) {
			t.Errorf("%s: %v, %d, want %v", name, l, e, want)
		}
	}
}

// P11.2, R1, R2: the errors of Bounds, in their order.
func TestP11_2Errors(t *testing.T) {
	faults := []fault{noNeurons(), wrongSynapse()}
	faults = append(faults, wrongEvents("sure", func(a *args) *[]api.Event { return &a.sure })...)
	faults = append(faults, wrongEvents("may", func(a *args) *[]api.Event { return &a.may })...)
	faults = append(faults, wrongTicks()...)
	checkFaults(t, good, func(a args) (any, api.Errno) {
		l, e := verify.Bounds(a.n, a.sure, a.may, a.ticks)
		return l, e
	}, faults...)
}

// P11.3: Holds, for spikes in any order.
func TestP11_3Holds(t *testing.T) {
	const least, most = math.MinInt, math.MaxInt
	spikes := ev(3, 0, 4, 1, 8, 0)
	for _, x := range []struct {
		c      verify.Claim
		spikes []api.Event
		want   bool
	}{
		{first(0, 9, 0, 1), spikes, true},
		{first(0, 9, 1, 0), spikes, false},
		{first(0, 9, 0), spikes, true},
		{first(0, 9, 1), spikes, true},
		{first(4, 9, 1, 0), spikes, true},  // the spike of the other one is before these ticks
		{first(5, 9, 1, 0), spikes, false}, // and so is its own one
		{first(0, 3, 0, 1), spikes, false}, // To is not one of the ticks
		{first(0, 4, 0, 1), spikes, true},  // but From is
		{first(3, 4, 0), spikes, true},     //
		{first(3, 3, 0), spikes, false},    // there are no ticks
		{first(0, 10000, 1), nil, false},   // there are no spikes
		{first(0, 9, 0, 1), ev(3, 0, 3, 1), false},
		{first(0, 9, 0, 1), ev(4, 1, 3, 0), true},
		{first(0, 9, 0, 1), ev(5, 0, 4, 1, 3, 0), true},
		{first(0, 9, 0, 1), ev(9, 0, 5, 1), false},
		{first(0, 9, 0, 1), ev(8, 0, 9, 1, -1, 1, most, 1, least, 1), true},
		{first(0, 9, 0, 1), ev(5, 0, 5, 0, 2, 7, 2, -1, 1, most, 1, least), true},
		{count(0, 9, 3, 3, 0, 1), spikes, true},
		{count(0, 8, 3, 3, 0, 1), spikes, false},
		{count(3, 8, 2, 2, 0, 1), spikes, true},
		{count(4, 9, 2, 2, 0, 1), spikes, true},
		{count(0, 9, 2, 2, 0), spikes, true},
		{count(0, 9, 1, 1, 1), spikes, true},
		{count(0, 9, 0, 0, 1), spikes, false},
		{count(4, 4, 0, 0, 1), spikes, true},
		{count(4, 4, 1, 9, 1), spikes, false},
		{count(0, 9, 0, most, 0), spikes, true},
		{count(0, 9, most, most, 0), spikes, false},
		{count(0, 9, 2, 1, 0), spikes, false},
		{count(0, 9, 4, 4, 0, 1), ev(8, 0, 3, 0, 3, 0, 3, 0, 9, 0, -1, 0, 3, 2, 3, -1, most, 0, least, 1), true},
		{count(0, 9, 0, 0, 0), nil, true},
	} {
		if is, e := verify.Holds(chain(), x.c, x.spikes); is != x.want || e != api.OK {
			t.Errorf("Holds(%+v, %v): %v, %d", x.c, x.spikes, is, e)
		}
	}
}

// P11.3, R1, R2: the errors of Check and of Holds, in their order, and what is no error.
func TestP11_3Errors(t *testing.T) {
	faults := append([]fault{noNeurons(), wrongSynapse()}, wrongClaim()...)
	checkFaults(t, good, func(a args) (any, api.Errno) { return 0, verify.Check(a.n, a.c) }, faults...)
	checkFaults(t, good, func(a args) (any, api.Errno) {
		a.c.Lo = min(a.c.Lo, 0)
		is, e := verify.Holds(a.n, a.c, a.spikes)
		return is && e != api.OK, e
	}, faults...)
	for _, c := range []verify.Claim{
		first(0, 0, 1), first(10000, 10000, 0), first(0, 10000, 1, 0), count(3, 3, 0, 0, 0), count(0, 1, 9, 2, 0), count(0, 1, math.MaxInt, 0, 0),
	} {
		if e := verify.Check(chain(), c); e != api.OK {
			t.Errorf("Check(%+v): %d", c, e)
		}
	}
	// The first neuron with an error decides; and Lo and Hi have to be valid for each kind.
	for _, x := range []struct {
		c    verify.Claim
		want api.Errno
	}{
		{first(0, 1, 0, 0, 9), api.ErrHave}, {first(0, 1, 0, 9, 0), api.ErrRange}, {first(0, 1, 9, 9), api.ErrRange},
		{verify.Claim{Kind: verify.First, Neurons: []int{0}, Lo: -1}, api.ErrRange}, {verify.Claim{Kind: verify.First, Neurons: []int{0}, Hi: -1}, api.ErrRange},
	} {
		if e := verify.Check(chain(), x.c); e != x.want {
			t.Errorf("Check(%+v): %d, want %d", x.c, e, x.want)
		}
		if is, e := verify.Holds(chain(), x.c, ev(0, 0)); is || e != x.want {
			t.Errorf("Holds(%+v): %v, %d, want %d", x.c, is, e, x.want)
		}
	}
}

// P11.4: the examples, and the edges of each case.
func TestP11_4Certain(t *testing.T) {
	n, sure, may := chain(), ev(0, 0), ev(2, 0)
	// The neuron 0: Always in 1, May in 3; the neuron 1: Always in 4, May in 6.
	for _, x := range []struct {
		c    verify.Claim
		want int
	}{
		{count(0, 7, 1, 2, 1), 1}, {count(0, 7, 2, 2, 1), 0}, {count(0, 7, 3, 9, 1), -1},
		{count(0, 7, 1, 1, 1), 0}, {count(0, 7, 0, 0, 1), -1}, {count(0, 7, 0, 3, 1), 1}, {count(0, 7, 2, 1, 1), 0}, {count(0, 7, 9, 0, 1), -1},
		{count(0, 6, 1, 1, 1), 1}, {count(5, 7, 1, 1, 1), 0}, {count(5, 7, 0, 1, 1), 1}, {count(4, 4, 0, 0, 1), 1}, {count(4, 4, 1, 1, 1), -1},
		{count(0, 7, 2, 4, 1, 0), 1}, {count(0, 7, 2, 3, 1, 0), 0}, {count(0, 7, 5, 5, 1, 0), -1}, {count(0, 7, 0, 1, 1, 0), -1},
		{first(0, 7, 0), 1}, {first(0, 7, 0, 1), 1}, {first(0, 1, 0), -1}, {first(1, 2, 0), 1}, {first(2, 7, 0), 0}, {first(4, 7, 0), -1}, {first(3, 3, 0), -1},
		{first(0, 7, 1, 0), -1}, {first(2, 7, 1, 0), 0}, {first(4, 7, 1, 0), 1}, {first(5, 7, 1, 0), 0}, {first(2, 7, 0, 1), 0}, {first(4, 7, 0, 1), -1},
	} {
		if y, e := verify.Certain(n, sure, may, 7, x.c); y != x.want || e != api.OK {
			t.Errorf("Certain(%+v): %d, %d, want %d", x.c, y, e, x.want)
		}
	}
	// Both for sure in the same tick; and another one that may be the first.
	for _, x := range []struct {
		sure, may []api.Event
		want      int
	}{
		{ev(1, 0, 1, 1), nil, -1}, {ev(1, 0, 2, 1), nil, 1}, {ev(2, 0), ev(1, 1), 0}, {ev(2, 0), ev(2, 1), 0}, {ev(2, 0), ev(3, 1), 1},
		{ev(2, 1), ev(2, 0), -1}, {ev(2, 1), ev(1, 0), 0}, {ev(2, 1), ev(3, 0), -1}, {ev(2, 0, 3, 1), ev(1, 0), 1}, {nil, ev(1, 0), 0}, {nil, ev(1, 1), -1}, {ev(3, 0), ev(1, 0, 2, 1), 0},
	} {
		if y, e := verify.Certain(relay(2), x.sure, x.may, 9, first(0, 9, 0, 1)); y != x.want || e != api.OK {
			t.Errorf("Certain of %v and %v: %d, %d, want %d", x.sure, x.may, y, e, x.want)
		}
	}
	if y, e := verify.Certain(n, sure, may, 10000, count(0, 10000, 2, 4, 0, 1)); y != 1 || e != api.OK {
		t.Errorf("Certain for all ticks: %d, %d", y, e)
	}
}

// P11.4, R1, R2: the errors of Certain, in their order.
func TestP11_4Errors(t *testing.T) {
	faults := []fault{noNeurons(), wrongSynapse()}
	faults = append(faults, wrongEvents("sure", func(a *args) *[]api.Event { return &a.sure })...)
	faults = append(faults, wrongEvents("may", func(a *args) *[]api.Event { return &a.may })...)
	faults = append(faults, wrongTicks()...)
	faults = append(faults, wrongClaim()...)
	faults = append(faults, fault{"to above ticks", api.ErrRange, func(a *args) { a.ticks, a.c.To = 8, 9 }})
	checkFaults(t, good, func(a args) (any, api.Errno) {
		y, e := verify.Certain(a.n, a.sure, a.may, a.ticks, a.c)
		return e != api.OK && y != 0, e
	}, faults...)
	if y, e := verify.Certain(chain(), ev(0, 0), nil, 5, count(0, 5, 1, 1, 1)); y != 1 || e != api.OK {
		t.Errorf("to is ticks: %d, %d", y, e)
	}
}

// P11.5: how many disturbances there are.
func TestP11_5Runs(t *testing.T) {
	many := func(n int) []api.Event { return make([]api.Event, n) }
	for _, x := range []struct {
		inputs         []api.Event
		jitter, losses int
		want           int
		e              api.Errno
	}{
		{ev(5, 0), 2, 1, 6, api.OK}, {ev(1, 0), 2, 1, 5, api.OK}, {ev(9999, 0), 2, 1, 4, api.OK}, {ev(0, 0), 0, 0, 1, api.OK}, {nil, 64, 64, 1, api.OK},
		{ev(5, 0), 0, 64, 2, api.OK}, {ev(64, 0), 64, 0, 129, api.OK}, {ev(63, 0), 64, 0, 128, api.OK}, {ev(9935, 0), 64, 0, 129, api.OK}, {ev(9936, 0), 64, 0, 128, api.OK},
		{ev(9, -7, 5, 99999, 5, 99999), 1, 1, 27 + 27, api.OK}, // neither numbers nor the order matter
		{ev(5, 0, 5, 0), 1, 1, 15, api.OK}, {ev(5, 0, 5, 0), 1, 2, 16, api.OK}, {ev(5, 0, 5, 0), 1, 3, 16, api.OK},
		{many(64), 0, 0, 1, api.OK}, {many(64), 0, 1, 65, api.OK}, {many(64), 0, 2, 2081, api.OK}, {many(64), 0, 3, 0, api.ErrMany}, {many(64), 64, 64, 0, api.ErrMany},
		{many(14), 1, 0, 1 << 14, api.OK}, {many(15), 1, 0, 0, api.ErrMany}, {many(63), 1, 0, 0, api.ErrMany}, {many(64), 1, 0, 0, api.ErrMany},
		{ev(8, 0, 8, 0, 15, 0), 16, 0, 20000, api.OK}, {ev(8, 0, 8, 0, 15, 0), 15, 3, 20000, api.OK}, {ev(1, 0, 1, 0, 4, 0, 7, 0), 7, 1, 0, api.ErrMany}, {ev(7, 0, 10, 0, 14, 0), 15, 1, 0, api.ErrMany},
	} {
		if n, e := verify.Runs(x.inputs, x.jitter, x.losses); n != x.want || e != x.e {
			t.Errorf("Runs(%v, %d, %d): %d, %d, want %d, %d", x.inputs, x.jitter, x.losses, n, e, x.want, x.e)
		}
	}
}

// runFaults are those of Runs.
func runFaults() []fault {
	l := []fault{{"65 events", api.ErrMany, func(a *args) {
		a.sure = nil
		for t := range 65 {
			a.sure = append(a.sure, api.Event{Tick: t})
		}
	}}}
	for _, x := range []int{-1, 65, math.MinInt, math.MaxInt} {
		l = append(l, fault{"jitter", api.ErrRange, func(a *args) { a.jitter = x }}, fault{"losses", api.ErrRange, func(a *args) { a.losses = x }})
	}
	return l
}

// tooManyRuns is the fault of Runs behind these.
func tooManyRuns() fault {
	return fault{"many disturbances", api.ErrMany, func(a *args) { a.sure, a.jitter = ev(70, 0, 71, 0, 72, 0), 64 }}
}

// P11.5, R1, R2: the errors of Runs, in their order.
func TestP11_5RunsErrors(t *testing.T) {
	faults := runFaults()
	for _, x := range []int{-1, 10000, math.MinInt, math.MaxInt} {
		faults = append(faults, fault{"tick", api.ErrRange, func(a *args) { a.sure = append(ev(0, 0), ev(x, 0)...) }})
	}
	faults = append(faults, tooManyRuns())
	checkFaults(t, good, func(a args) (any, api.Errno) {
		n, e := verify.Runs(a.sure, a.jitter, a.losses)
		return e != api.OK && n != 0, e
	}, faults...)
}

// P11.5: the examples, the order of disturbances, and the edges.
func TestP11_5Robust(t *testing.T) {
	// The tick of a spike says where its event was moved.
	steps := relay(1)
	for name, x := range map[string]struct {
		n              api.Net
		inputs         []api.Event
		jitter, losses int
		ticks          int
		c              verify.Claim
		is             bool
		bad            []api.Event
	}{
		"moved":                       {chain(), ev(0, 0), 2, 0, 10, count(0, 10, 1, 1, 1), true, nil},
		"lost":                        {chain(), ev(0, 0), 2, 1, 10, count(0, 10, 1, 1, 1), false, nil},
		"too close":                   {chain(), ev(0, 0, 2, 0), 1, 0, 12, count(0, 12, 2, 2, 0), false, ev(0, 0, 1, 0)},
		"undisturbed":                 {chain(), ev(0, 0), 64, 64, 10, count(0, 10, 0, 0, 0), false, ev(0, 0)},
		"no events":                   {beats(1), nil, 64, 64, 10, count(0, 10, 10, 10, 0), true, nil},
		"no ticks":                    {beats(1), ev(5, 0), 2, 1, 0, count(0, 0, 0, 0, 0), true, nil},
		"earlier comes first":         {steps, ev(5, 0), 2, 1, 20, count(6, 7, 1, 1, 0), false, ev(4, 0)},
		"then later":                  {steps, ev(5, 0), 2, 1, 20, count(5, 7, 1, 1, 0), false, ev(6, 0)},
		"then two ticks earlier":      {steps, ev(5, 0), 2, 1, 20, count(5, 8, 1, 1, 0), false, ev(3, 0)},
		"then two ticks later":        {steps, ev(5, 0), 2, 1, 20, count(4, 8, 1, 1, 0), false, ev(7, 0)},
		"then it is lost":             {steps, ev(5, 0), 2, 1, 20, count(4, 9, 1, 1, 0), false, nil},
		"but not more than that":      {steps, ev(5, 0), 2, 0, 20, count(4, 9, 1, 1, 0), true, nil},
		"the last event moves first":  {steps, ev(5, 0, 9, 0), 1, 1, 20, count(6, 11, 2, 2, 0), false, ev(5, 0, 10, 0)},
		"the last event is lost":      {steps, ev(5, 0, 9, 0), 1, 1, 20, count(0, 20, 2, 2, 0), false, ev(5, 0)},
		"losses are used up":          {steps, ev(5, 0, 9, 0), 1, 1, 20, count(0, 20, 1, 2, 0), true, nil},
		"both are lost":               {steps, ev(5, 0, 9, 0), 1, 2, 20, count(0, 20, 1, 2, 0), false, nil},
		"equal ones are one":          {steps, ev(5, 0, 6, 0), 1, 0, 20, count(0, 20, 2, 2, 0), false, ev(5, 0)},
		"they come in order":          {relay(2), ev(5, 0, 5, 1), 1, 0, 20, count(6, 7, 2, 2, 0, 1), false, ev(4, 1, 5, 0)},
		"the order of the first ones": {relay(2), ev(5, 0, 5, 1), 2, 0, 20, first(0, 20, 0, 1), false, ev(5, 0, 5, 1)},
		"no tick below 0":             {steps, ev(0, 0), 3, 0, 20, count(1, 5, 1, 1, 0), true, nil},
		"no tick behind all":          {steps, ev(9999, 0), 3, 0, 10000, count(9997, 10000, 1, 1, 0), false, ev(9999, 0)},
		"up to the last tick":         {steps, ev(9998, 0), 3, 0, 10000, count(9996, 10000, 1, 1, 0), false, ev(9999, 0)},
	} {
		is, l, e := verify.Robust(x.n, x.inputs, x.jitter, x.losses, x.ticks, x.c)
		if is != x.is || e != api.OK || !slices.Equal(l, x.bad) {
			t.Errorf("%s: %v, %v, %d, want %v, %v", name, is, l, e, x.is, x.bad)
		}
	}
}

// P11.5: ErrLong for a run with too many spikes, if none before it decides.
func TestP11_5TooManySpikes(t *testing.T) {
	const n = api.MaxNeurons
	steady := beats(n)
	// An event starts all neurons, which then go on for ever; an early one gives them time for too many spikes.
	started := api.Net{Inputs: 1}
	for i := range n {
		started.Neurons = append(started.Neurons, api.Params{Thresh: 1})
		started.Synapses = append(started.Synapses, syn(-1, i, 1, 1), syn(i, i, 1, 1))
	}
	for name, x := range map[string]struct {
		n      api.Net
		inputs []api.Event
		jitter int
		losses int
		ticks  int
		c      verify.Claim
		is     bool
		bad    []api.Event
		e      api.Errno
	}{
		"as many as can be":      {steady, nil, 0, 0, 64, count(0, 64, 64, 64, 0), true, nil, api.OK},
		"too many":               {steady, nil, 0, 0, 65, count(0, 65, 65, 65, 0), false, nil, api.ErrLong},
		"too many anywhere":      {steady, nil, 0, 0, 65, count(0, 1, 0, 0, 0), false, nil, api.ErrLong},
		"as many as can be, too": {started, ev(1, 0), 0, 1, 66, count(0, 66, 0, 64, 0), true, nil, api.OK},
		"when moved":             {started, ev(1, 0), 1, 0, 66, count(0, 66, 0, 64, 0), false, nil, api.ErrLong},
		"decided before":         {started, ev(1, 0), 1, 0, 66, count(0, 66, 0, 63, 0), false, ev(1, 0), api.OK},
	} {
		is, l, e := verify.Robust(x.n, x.inputs, x.jitter, x.losses, x.ticks, x.c)
		if is != x.is || e != x.e || !slices.Equal(l, x.bad) {
			t.Errorf("%s: %v, %v, %d, want %v, %v, %d", name, is, l, e, x.is, x.bad, x.e)
		}
	}
}

// P11.5, R1, R2: the errors of Robust, in their order.
func TestP11_5RobustErrors(t *testing.T) {
	faults := []fault{noNeurons(), wrongSynapse()}
	faults = append(faults, wrongEvents("inputs", func(a *args) *[]api.Event { return &a.sure })...)
	faults = append(faults, runFaults()...)
	faults = append(faults, tooManyRuns())
	faults = append(faults, wrongTicks()...)
	faults = append(faults, wrongClaim()...)
	faults = append(faults, fault{"to above ticks", api.ErrRange, func(a *args) { a.ticks, a.c.To = 8, 9 }})
	checkFaults(t, good, func(a args) (any, api.Errno) {
		is, l, e := verify.Robust(a.n, a.sure, a.jitter, a.losses, a.ticks, a.c)
		return e != api.OK && (is || len(l) > 0), e
	}, faults...)
}

// P11.1 to P11.5: all functions that get a network return its error first, whatever else is wrong.
func TestP11NetworkFirst(t *testing.T) {
	for _, n := range []api.Net{{}, {Neurons: []api.Params{{}}}, {Neurons: make([]api.Params, api.MaxNeurons+1)}, {Neurons: []api.Params{{Thresh: 1}}, Inputs: -1}, {Neurons: []api.Params{{Thresh: 1, LeakKind: 5}}}} {
		want := net.Check(n)
		wrong := ev(-1, -1)
		c := verify.Claim{Kind: 9}
		_, _, _, a := verify.Reach(n, verify.Env{Free: make([]int, 7), Most: -1}, nil, -1)
		_, b := verify.Bounds(n, wrong, wrong, -1)
		_, d := verify.Holds(n, c, nil)
		_, f := verify.Certain(n, wrong, wrong, -1, c)
		_, _, h := verify.Robust(n, wrong, -1, -1, -1, c)
		if l := []api.Errno{a, b, verify.Check(n, c), d, f, h}; want == api.OK || !slices.Equal(l, slices.Repeat([]api.Errno{want}, 6)) {
			t.Errorf("%v: %v, want %d", n, l, want)
		}
	}
}
