package learn_test

import (
	"math"
	"slices"
	"strconv"
	"testing"

	"ganglion/api"
	"ganglion/learn"
)

// edges are numbers at and around all bounds, and the greatest ones of all.
var edges = []int{0, 1, -1, 2, -2, 3, 15, 16, 17, 127, 128, -128, -129, 255, 256, -255, -256, 4096, 4097, api.MaxTicks - 1, api.MaxTicks, api.MaxTicks + 1, -api.MaxTicks - 1, learn.MaxTrace + 1, math.MaxInt, math.MinInt, math.MaxInt - 1, math.MinInt + 1}

// answers are the errors of all functions that get a network that learns, by their names. With an error, there is
// nothing else (R2).
func answers(t *testing.T, x task, inputs []api.Event, prizes []learn.Prize, ticks int) map[string]api.Errno {
	t.Helper()
	before := x.clone()
	events, rewards := slices.Clone(inputs), slices.Clone(prizes)
	answers := map[string]api.Errno{"Check": learn.Check(x.n, x.rules, x.plastic)}
	l, e := learn.New(x.n, x.rules, x.plastic)
	if answers["New"] = e; (l == nil) != (e != api.OK) {
		t.Errorf("New: %v with the error %d", l, e)
	}
	spikes, n, e := learn.Train(x.n, x.rules, x.plastic, inputs, prizes, ticks)
	if answers["Train"] = e; e != api.OK && (len(spikes) > 0 || !sameNet(n, api.Net{})) {
		t.Errorf("Train: %v, %v with the error %d", spikes, n, e)
	}
	if !before.same(x) || !slices.Equal(events, inputs) || !slices.Equal(rewards, prizes) {
		t.Errorf("the arguments were changed: %v, %v, %v, were %v, %v, %v", x, inputs, prizes, before, events, rewards)
	}
	return answers
}

// P0: whatever the arguments are, every function returns.
func TestP0AnyArguments(t *testing.T) {
	var g generator = 3
	any := func() int { return g.one(edges...) }
	good, bad := 0, 0
	for range 3000 {
		x := g.task()
		if g.below(8) == 0 {
			x.n.Inputs = any()
		}
		if i := g.below(20); i < len(x.n.Synapses) && g.below(4) == 0 {
			s := &x.n.Synapses[i]
			*[]*int{&s.From, &s.To, &s.Weight, &s.Delay}[g.below(4)] = any()
		}
		if i := g.below(16); i < len(x.rules) && g.below(2) == 0 {
			r := &x.rules[i]
			*[]*int{&r.Kind, &r.Up, &r.Down, &r.Shift, &r.Gain, &r.Keep, &r.Fade, &r.Lo, &r.Hi}[g.below(9)] = any()
		}
		if i := g.below(64); i < len(x.plastic) {
			x.plastic[i] = any()
		}
		inputs, prizes := g.events(x.n.Inputs%9, 20, 3), g.prizes(len(x.rules), 20, 3)
		if len(inputs) > 0 && g.below(4) == 0 {
			inputs[g.below(len(inputs))] = api.Event{Tick: any(), Id: any()}
		}
		if len(prizes) > 0 && g.below(4) == 0 {
			prizes[g.below(len(prizes))] = learn.Prize{Tick: any(), Rule: any(), Value: any()}
		}
		a := answers(t, x, inputs, prizes, g.one(any(), 25))
		if a["New"] != a["Check"] {
			t.Errorf("New(%v): %d, Check: %d", x, a["New"], a["Check"])
		}
		if a["Check"] != api.OK {
			if bad++; a["Train"] != a["Check"] {
				t.Errorf("Train(%v): %d, Check: %d", x, a["Train"], a["Check"])
			}
			continue
		}
		good++
		l := begin(t, x)
		for range 3 {
			if s, e := l.Step([]int{any(), any()}, slices.Repeat([]int{any()}, g.below(4))); e != api.OK && len(s) > 0 {
				t.Errorf("Step: %v with the error %d", s, e)
			}
			l.Mark(any())
		}
	}
	if good < 500 || bad < 500 {
		t.Errorf("%d valid tasks, %d others", good, bad)
	}
}

// P0: whatever the rule and the gap are, Window returns, and has no number with an error.
func TestP0AnyWindow(t *testing.T) {
	var g generator = 5
	any := func() int { return g.one(edges...) }
	for range 20000 {
		r := learn.Rule{Kind: g.one(1, 2, any()), Up: any(), Down: any(), Shift: any(), Gain: any(), Keep: any(), Fade: any(), Lo: any(), Hi: any()}
		if g.below(2) == 0 {
			r = g.rule()
		}
		if c, e := learn.Window(r, any()); e != api.OK && c != 0 {
			t.Errorf("Window of %v: %d with the error %d", r, c, e)
		}
	}
}

// P0, R3: an object that no function of the package made.
func TestP0NoLearner(t *testing.T) {
	made := begin(t, example(pair()))
	step(t, made, nil, nil)
	assigned := *made
	for name, l := range map[string]*learn.Learner{"nil": nil, "new": {}, "assigned": &assigned} {
		if s, e := l.Step([]int{7}, []int{999, 1}); len(s) > 0 || e != api.ErrNil {
			t.Errorf("%s: Step: %v, %d", name, s, e)
		}
		if m, e := l.Mark(-1); m != (learn.Mark{}) || e != api.ErrNil {
			t.Errorf("%s: Mark: %v, %d", name, m, e)
		}
		if n, e := l.Net(); !sameNet(n, api.Net{}) || e != api.ErrNil {
			t.Errorf("%s: Net: %v, %d", name, n, e)
		}
		if l.Now() != 0 || l.Copy() != nil {
			t.Errorf("%s: Now: %d, Copy: %v", name, l.Now(), l.Copy())
		}
	}
	if made.Now() != 1 {
		t.Errorf("the object that was assigned: Now is %d", made.Now())
	}
}

// check is a task that is made from the example by a change, and the error of Check for it.
type check struct {
	change func(x *task)
	want   api.Errno
}

func checks() map[string]check {
	return map[string]check{
		"nothing":                 {func(*task) {}, api.OK},
		"the network":             {func(x *task) { x.n.Synapses[0].Delay, x.rules = 0, make([]learn.Rule, 17) }, api.ErrRange},
		"no neurons":              {func(x *task) { x.n.Neurons, x.rules[0].Kind = nil, 0 }, api.ErrArg},
		"16 rules":                {func(x *task) { x.rules = slices.Repeat(x.rules, 16) }, api.OK},
		"17 rules":                {func(x *task) { x.rules = slices.Repeat(x.rules, 17) }, api.ErrMany},
		"17 rules, wrong":         {func(x *task) { x.rules, x.plastic = make([]learn.Rule, 17), nil }, api.ErrMany},
		"wrong, then the kind":    {func(x *task) { x.rules = append(x.rules, learn.Rule{}); x.rules[0].Up = -1 }, api.ErrRange},
		"the kind, then wrong":    {func(x *task) { x.rules = append(x.rules, x.rules[0]); x.rules[0].Kind, x.rules[1].Up = 0, -1 }, api.ErrArg},
		"a rule that none has":    {func(x *task) { x.rules = append(x.rules, learn.Rule{}) }, api.ErrArg},
		"a rule, then the shape":  {func(x *task) { x.rules[0].Up, x.plastic = 256, nil }, api.ErrRange},
		"too few":                 {func(x *task) { x.plastic = x.plastic[1:] }, api.ErrShape},
		"too many":                {func(x *task) { x.plastic = append(x.plastic, -1) }, api.ErrShape},
		"none":                    {func(x *task) { x.plastic = nil }, api.ErrShape},
		"too few, one wrong":      {func(x *task) { x.plastic = []int{7, 7} }, api.ErrShape},
		"no such rule":            {func(x *task) { x.plastic[2] = 1 }, api.ErrRange},
		"below -1":                {func(x *task) { x.plastic[0] = -2 }, api.ErrRange},
		"no rules":                {func(x *task) { x.rules = nil }, api.ErrRange},
		"nothing plastic":         {func(x *task) { x.rules, x.plastic[2] = nil, -1 }, api.OK},
		"above Hi":                {func(x *task) { x.n.Synapses[2].Weight = 10 }, api.ErrBound},
		"at Hi":                   {func(x *task) { x.n.Synapses[2].Weight = 9 }, api.OK},
		"below Lo":                {func(x *task) { x.n.Synapses[2].Weight = -1 }, api.ErrBound},
		"at Lo":                   {func(x *task) { x.n.Synapses[2].Weight = 0 }, api.OK},
		"not plastic, not within": {func(x *task) { x.n.Synapses[2].Weight, x.plastic[2] = 10, -1 }, api.OK},
		"a bound, then a rule":    {func(x *task) { x.n.Synapses[0].Weight, x.plastic = 10, []int{0, 2, -1} }, api.ErrBound},
		"a rule, then a bound":    {func(x *task) { x.n.Synapses[1].Weight, x.plastic = 10, []int{2, 0, -1} }, api.ErrRange},
		"the bounds of its rule":  {func(x *task) { x.rules = append(x.rules, pair()); x.rules[1].Lo, x.plastic[0] = 6, 1 }, api.ErrBound},
		"no synapses":             {func(x *task) { x.n.Synapses, x.plastic = nil, nil }, api.OK},
	}
}

// ruleCheck is a rule, and the error that it has.
type ruleCheck struct {
	r    learn.Rule
	want api.Errno
}

// rules are rules with one number at a bound, or beyond it.
func rules() map[string]ruleCheck {
	both, beyond := pair(), pair()
	both.Kind, both.Up, beyond.Lo, beyond.Hi = 3, -1, 256, 257
	l := map[string]ruleCheck{"both": {both, api.ErrArg}, "beyond": {beyond, api.ErrRange}}
	for name, x := range map[string]struct {
		of          func(r *learn.Rule) *int
		least, most int
	}{
		"Kind":           {func(r *learn.Rule) *int { r.Fade = 0; return &r.Kind }, 1, 2},
		"Up":             {func(r *learn.Rule) *int { return &r.Up }, 0, 255},
		"Down":           {func(r *learn.Rule) *int { return &r.Down }, 0, 255},
		"Shift":          {func(r *learn.Rule) *int { return &r.Shift }, 0, 16},
		"Gain":           {func(r *learn.Rule) *int { return &r.Gain }, 1, 4096},
		"Keep":           {func(r *learn.Rule) *int { return &r.Keep }, 0, 255},
		"Fade":           {func(r *learn.Rule) *int { return &r.Fade }, 0, 255},
		"Fade of a pair": {func(r *learn.Rule) *int { r.Kind = learn.Pair; return &r.Fade }, 0, 0},
		"Lo":             {func(r *learn.Rule) *int { return &r.Lo }, -255, 9},
		"Hi":             {func(r *learn.Rule) *int { return &r.Hi }, 0, 255},
		"Lo below 0":     {func(r *learn.Rule) *int { r.Hi = -3; return &r.Lo }, -255, -3},
		"Hi below 0":     {func(r *learn.Rule) *int { r.Lo = -5; return &r.Hi }, -5, 255},
		"Lo, Hi 255":     {func(r *learn.Rule) *int { r.Hi = 255; return &r.Lo }, -255, 255},
		"Hi, Lo -255":    {func(r *learn.Rule) *int { r.Lo = -255; return &r.Hi }, -255, 255},
	} {
		for _, value := range []int{x.least, x.most, x.least - 1, x.most + 1, math.MinInt, math.MaxInt} {
			y := ruleCheck{r: reward()}
			*x.of(&y.r) = value
			if value < x.least || value > x.most {
				if y.want = api.ErrRange; name == "Kind" {
					y.want = api.ErrArg
				}
			}
			l[name+" "+strconv.Itoa(value)] = y
		}
	}
	return l
}

// P3.1, P3.3, P3.5: Check, and its error first in all other functions, whatever else is wrong.
func TestP3_1Check(t *testing.T) {
	for name, y := range checks() {
		x := example(pair())
		y.change(&x)
		for f, e := range answers(t, x, nil, nil, 3) {
			if e != y.want {
				t.Errorf("%s: %s: %d, want %d", name, f, e, y.want)
			}
		}
		if y.want != api.OK {
			if e := answers(t, x, ev(0, 9), pr(-1, 9, 999), -1)["Train"]; e != y.want {
				t.Errorf("%s, and more: Train: %d, want %d", name, e, y.want)
			}
		}
	}
}

// P3.1: the numbers that the document states for the constants.
func TestP3_1Constants(t *testing.T) {
	if learn.MaxRules != 16 || learn.MaxGain != 4096 || learn.MaxTrace != 65535 || learn.Pair != 1 || learn.Reward != 2 {
		t.Errorf("the constants: %d, %d, %d, %d, %d", learn.MaxRules, learn.MaxGain, learn.MaxTrace, learn.Pair, learn.Reward)
	}
}

// P3.1: the numbers of a rule, also if no synapse has it.
func TestP3_1Rules(t *testing.T) {
	for name, y := range rules() {
		x := example(pair())
		x.rules = append(x.rules, y.r)
		for f, e := range answers(t, x, nil, nil, 3) {
			if e != y.want {
				t.Errorf("%s: %s: %d, want %d", name, f, e, y.want)
			}
		}
	}
}

// P3.2: the examples, the greatest traces, and gaps of all lengths.
func TestP3_2Window(t *testing.T) {
	strong := learn.Rule{Kind: learn.Pair, Up: 255, Down: 254, Gain: 4096, Keep: 255}
	lost := strong
	lost.Keep = 0
	weak := learn.Rule{Kind: learn.Pair, Up: 1, Down: 1, Shift: 16, Gain: 4096, Keep: 255}
	odd := learn.Rule{Kind: learn.Pair, Up: 3, Down: 3, Shift: 1, Gain: 3, Keep: 128}
	for _, x := range []struct {
		r         learn.Rule
		gap, want int
	}{
		{pair(), 1, 2}, {pair(), 2, 1}, {pair(), 3, 0}, {pair(), 0, 0}, {pair(), -1, -1}, {pair(), -2, 0},
		{reward(), 1, 32}, {reward(), -1, -16}, {reward(), 5, 2}, {reward(), 0, 0},
		{strong, 1, 255 * 4080}, {strong, 2, 255 * 4064}, {strong, 3, 255 * 4048}, {strong, -1, -254 * 4080}, {strong, -2, -254 * 4064}, {strong, 0, 0}, {strong, 10000, 0}, {strong, -10000, 0},
		{lost, 1, 0}, {lost, -1, 0}, {lost, 0, 0}, {weak, 1, 0}, {weak, -1, 0},
		{odd, 1, 1}, {odd, -1, -1}, {odd, 2, 0}, // 3 times 1 is 3, of which the half is 1, also if it is subtracted
	} {
		if c := window(t, x.r, x.gap); c != x.want {
			t.Errorf("Window(%v, %d): %d, want %d", x.r, x.gap, c, x.want)
		}
	}
}

// P3.2: Window against the definition: c in the second tick of the pair.
func TestP3_2WindowAsTheModel(t *testing.T) {
	var g generator = 7
	for range 3000 {
		r := g.rule()
		for gap := -12; gap <= 12; gap++ {
			x, number := r.Gain, r.Up
			if gap < 0 {
				number = r.Down
			}
			for range max(gap, -gap) {
				x = down(x*r.Keep, 256)
			}
			want := down(number*x, 1<<r.Shift)
			if gap < 0 {
				want = -want
			} else if gap == 0 {
				want = 0
			}
			if c := window(t, r, gap); c != want {
				t.Fatalf("Window(%v, %d): %d, want %d", r, gap, c, want)
			}
		}
	}
}

// P3.2: the errors of Window.
func TestP3_2Errors(t *testing.T) {
	wrong, kind := pair(), pair()
	wrong.Fade, kind.Kind, kind.Up = 1, 0, -1
	for _, x := range []struct {
		r    learn.Rule
		gap  int
		want api.Errno
	}{{pair(), 10001, api.ErrRange}, {pair(), -10001, api.ErrRange}, {pair(), math.MaxInt, api.ErrRange}, {pair(), math.MinInt, api.ErrRange}, {wrong, 1, api.ErrRange}, {kind, 1, api.ErrArg}, {kind, 10001, api.ErrArg}, {learn.Rule{}, 0, api.ErrArg}, {pair(), 10000, api.OK}, {pair(), -10000, api.OK}} {
		if c, e := learn.Window(x.r, x.gap); e != x.want || c != 0 {
			t.Errorf("Window(%v, %d): %d, %d, want the error %d", x.r, x.gap, c, e, x.want)
		}
	}
	for name, x := range rules() {
		if _, e := learn.Window(x.r, 1); e != x.want {
			t.Errorf("%s: Window: %d, want %d", name, e, x.want)
		}
	}
}
