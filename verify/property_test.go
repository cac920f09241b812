package verify_test

import (
	"reflect"
	"slices"
	"testing"

	"ganglion/api"
	"ganglion/net"
	"ganglion/verify"
)

// P11.6, G7: with the run that is found the pattern is shown at t, and not before; without one no run shows it.
func TestP11_6Searching(t *testing.T) {
	var g generator = 21
	shown, never, full := 0, 0, 0
	for range 1200 {
		n := g.network()
		ticks := g.from(1, 25)
		v, pattern := g.surroundings(n, 2, ticks), g.pattern(n, 3)
		l, at, is, e := verify.Reach(n, v, pattern, ticks)
		if e == api.ErrFull {
			full++
			continue
		}
		if e != api.OK {
			t.Fatalf("Reach: %d", e)
		}
		last := ticks - 1
		if is {
			shown++
			checkRun(t, n, v, pattern, l, at)
			last = at - 1
		} else {
			never++
		}
		// Runs that are drawn do not show it at an earlier tick.
		for range 30 {
			spikes, _ := net.Run(n, chosen(v, g.choices(v, ticks)), ticks)
			for s := range last + 1 {
				if shows(pattern, spikes, s) {
					t.Fatalf("Reach(%+v, %+v, %+v, %d): %v, %d, %v; but it is shown at %d with %v", n, v, pattern, ticks, l, at, is, s, spikes)
				}
			}
		}
	}
	if shown < 300 || never < 300 || full > 200 {
		t.Errorf("%d times shown, %d times not, %d times full", shown, never, full)
	}
}

// checkRun checks that events are those of a run, and that with them the pattern is shown at a tick.
func checkRun(t *testing.T, n api.Net, v verify.Env, pattern []verify.Moment, l []api.Event, at int) {
	t.Helper()
	spikes, e := net.Run(n, l, at+1)
	driven, f := net.Driven(n, l, at+1)
	if e != api.OK || f != api.OK || !slices.Equal(spikes, driven) || !shows(pattern, spikes, at) {
		t.Fatalf("%+v, %+v: with %v the spikes are %v (%d, %d), which do not show it at %d", n, pattern, l, spikes, e, f, at)
	}
	var free, fixed []api.Event
	for _, x := range l {
		if slices.Contains(v.Free, x.Id) {
			free = append(free, x)
		} else {
			fixed = append(fixed, x)
		}
	}
	if len(free) > v.Most || !slices.Equal(fixed, chosen(verify.Env{Fixed: v.Fixed}, make([]int, at+1))) {
		t.Fatalf("%+v: %v is not a run up to %d", v, l, at)
	}
}

// choices draws the choices of a run.
func (g *generator) choices(v verify.Env, ticks int) []int {
	l, left := make([]int, ticks), v.Most
	rare := g.from(1, 6)
	for t := range l {
		if c := g.below(1 << len(v.Free)); g.below(rare) == 0 && count1(c) <= left {
			l[t] = c
			left -= count1(c)
		}
	}
	return l
}

// some draws some of the events, and adds to others, in order.
func (g *generator) some(events, others []api.Event) []api.Event {
	l := slices.Clone(others)
	rare := g.from(1, 4)
	for _, x := range events {
		if g.below(rare) == 0 {
			l = append(l, x)
		}
	}
	slices.SortFunc(l, byTick)
	return slices.Compact(l)
}

// P11.7, G7: in each run a neuron has a spike where the verdict is Always, and none where it is Never.
func TestP11_7Bounds(t *testing.T) {
	var g generator = 23
	always, never := 0, 0
	for range 1500 {
		n := g.network()
		ticks := g.from(5, 40)
		sure, may := g.events(all(n), ticks, 8), g.events(all(n), ticks, g.one(10, 30, 200))
		v, e := verify.Bounds(n, sure, may, ticks)
		if e != api.OK || len(v) != ticks {
			t.Fatalf("Bounds: %d, %d rows", e, len(v))
		}
		for range 8 {
			l := g.some(may, sure)
			spikes, _ := net.Run(n, l, ticks)
			for now, row := range v {
				for i, verdict := range row {
					spike := slices.Contains(spikes, api.Event{Tick: now, Id: i})
					if verdict == verify.Always && !spike || verdict == verify.Never && spike {
						t.Fatalf("Bounds(%+v, %v, %v): %d in the tick %d for the neuron %d, but with %v the spikes are %v", n, sure, may, verdict, now, i, l, spikes)
					}
					if verdict == verify.Always {
						always++
					}
					if verdict == verify.Never {
						never++
					}
				}
			}
		}
	}
	if always < 10000 || never < 10000 {
		t.Errorf("%d times Always, %d times Never", always, never)
	}
}

// P11.7: if all is sure, no verdict is May, and the verdicts are the spikes.
func TestP11_7Sure(t *testing.T) {
	var g generator = 25
	for range 1000 {
		n := g.network()
		ticks := g.from(1, 60)
		sure := g.events(all(n), ticks, 5)
		v, e := verify.Bounds(n, sure, g.some(sure, nil), ticks)
		var spikes []api.Event
		for now, row := range v {
			for i, verdict := range row {
				if verdict == verify.Always {
					spikes = append(spikes, api.Event{Tick: now, Id: i})
				} else if verdict != verify.Never {
					t.Fatalf("Bounds(%+v, %v): %d in the tick %d", n, sure, verdict, now)
				}
			}
		}
		if want, _ := net.Run(n, sure, ticks); e != api.OK || !slices.Equal(spikes, want) {
			t.Fatalf("Bounds(%+v, %v): %v, %d, want %v", n, sure, spikes, e, want)
		}
	}
}

// P11.7: with more events that may happen, verdicts remain, or become May.
func TestP11_7More(t *testing.T) {
	var g generator = 27
	remain, become := 0, 0
	for range 1000 {
		n := g.network()
		ticks := g.from(5, 40)
		sure, may := g.events(all(n), ticks, 8), g.events(all(n), ticks, 25)
		more := g.some(g.events(all(n), ticks, 15), may)
		v, _ := verify.Bounds(n, sure, may, ticks)
		w, _ := verify.Bounds(n, sure, more, ticks)
		for now := range v {
			for i, verdict := range v[now] {
				switch after := w[now][i]; {
				case after == verdict:
					remain++
				case after == verify.May:
					become++
				default:
					t.Fatalf("Bounds(%+v, %v) of %v: %d, of %v: %d in the tick %d for the neuron %d", n, sure, may, verdict, more, after, now, i)
				}
			}
		}
	}
	if remain < 5000 || become < 500 {
		t.Errorf("%d verdicts remained, %d became May", remain, become)
	}
}

// P11.8, G7: what is certain holds for each run, or for none.
func TestP11_8Claims(t *testing.T) {
	var g generator = 29
	seen := map[[2]int]int{}
	for range 3000 {
		n := g.network()
		ticks := g.from(1, 25)
		sure, may := g.events(all(n), ticks, 6), g.events(all(n), ticks, g.one(10, 30, 200))
		c := g.claim(n, ticks)
		y, e := verify.Certain(n, sure, may, ticks, c)
		if e != api.OK {
			t.Fatalf("Certain: %d", e)
		}
		seen[[2]int{c.Kind, y}]++
		if y == 0 {
			continue
		}
		for range 6 {
			l := g.some(may, sure)
			spikes, _ := net.Run(n, l, ticks)
			if is, e := verify.Holds(n, c, spikes); e != api.OK || is != (y == 1) {
				t.Fatalf("Certain(%+v, %v, %v, %d, %+v): %d, but with %v: %v, %d", n, sure, may, ticks, c, y, l, is, e)
			}
		}
	}
	for _, kind := range []int{verify.First, verify.Count} {
		for y := -1; y <= 1; y++ {
			if seen[[2]int{kind, y}] < 50 {
				t.Errorf("so many of each kind and result: %v", seen)
			}
		}
	}
}

// disturb draws a disturbance.
func (g *generator) disturb(inputs []api.Event, jitter, losses int) []api.Event {
	var l []api.Event
	for _, x := range inputs {
		if losses > 0 && g.below(3) == 0 {
			losses--
			continue
		}
		x.Tick = min(max(x.Tick+g.one(-jitter, jitter, g.from(-jitter, jitter)), 0), 9999)
		l = append(l, x)
	}
	slices.SortFunc(l, byTick)
	return slices.Compact(l)
}

// P11.9, G7: a claim that is robust holds with each disturbance; otherwise one is shown with which it does not hold.
func TestP11_9Disturbances(t *testing.T) {
	var g generator = 31
	robust, not := 0, 0
	for range 800 {
		n := g.network()
		inputs := g.events(all(n), 12, 6)
		inputs = inputs[:min(len(inputs), 3)]
		jitter, losses, ticks := g.below(5), g.below(3), g.from(10, 30)
		c := g.claim(n, ticks)
		c.Lo, c.Hi = g.below(3), g.from(5, 60)
		is, l, e := verify.Robust(n, inputs, jitter, losses, ticks, c)
		if e != api.OK {
			t.Fatalf("Robust: %d", e)
		}
		if !is {
			not++
			spikes, f := net.Run(n, l, ticks)
			if holds, e := verify.Holds(n, c, spikes); holds || e != api.OK || f != api.OK {
				t.Fatalf("Robust(%+v, %v, %d, %d, %d, %+v): with %v it holds", n, inputs, jitter, losses, ticks, c, l)
			}
			same := func(y []api.Event) bool { return slices.Equal(y, l) }
			if !slices.ContainsFunc(modelDisturbances(inputs, jitter, losses), same) {
				t.Fatalf("Robust(%v, %d, %d): %v is not a disturbance", inputs, jitter, losses, l)
			}
			continue
		}
		robust++
		for range 20 {
			l := g.disturb(inputs, jitter, losses)
			spikes, _ := net.Run(n, l, ticks)
			if holds, _ := verify.Holds(n, c, spikes); !holds {
				t.Fatalf("Robust(%+v, %v, %d, %d, %d, %+v): with %v it does not hold", n, inputs, jitter, losses, ticks, c, l)
			}
		}
	}
	if robust < 200 || not < 200 {
		t.Errorf("%d claims were robust, %d were not", robust, not)
	}
}

// P11.9: with less jitter, or fewer losses, a claim remains robust.
func TestP11_9Less(t *testing.T) {
	var g generator = 33
	changes := 0
	for range 300 {
		n := g.network()
		inputs := g.events(all(n), 12, 6)
		inputs = inputs[:min(len(inputs), 3)]
		ticks := g.from(10, 30)
		c := g.claim(n, ticks)
		c.Lo, c.Hi = g.below(2), g.from(5, 60)
		var is [4][3]bool
		for jitter := range is {
			for losses := range is[jitter] {
				is[jitter][losses], _, _ = verify.Robust(n, inputs, jitter, losses, ticks, c)
				if is[jitter][losses] && (jitter > 0 && !is[jitter-1][losses] || losses > 0 && !is[jitter][losses-1]) {
					t.Fatalf("Robust(%+v, %v, %d, %d, %d, %+v), but not with less", n, inputs, jitter, losses, ticks, c)
				}
			}
		}
		if is[0][0] && !is[3][2] {
			changes++
		}
	}
	if changes < 30 {
		t.Errorf("%d claims depended on jitter and losses", changes)
	}
}

// R3: a nil list is an empty one.
func TestR3Nil(t *testing.T) {
	n := chain()
	empty := []api.Event{}
	l, at, is, e := verify.Reach(n, verify.Env{Free: []int{}, Fixed: empty}, []verify.Moment{{Must: []int{}, Not: []int{}}}, 3)
	if len(l) > 0 || at != 0 || !is || e != api.OK {
		t.Errorf("Reach: %v, %d, %v, %d", l, at, is, e)
	}
	v, e := verify.Bounds(n, empty, empty, 3)
	if w, f := verify.Bounds(n, nil, nil, 3); e != f || !reflect.DeepEqual(v, w) {
		t.Errorf("Bounds: %v, %d, %v, %d", v, e, w, f)
	}
	if is, l, e := verify.Robust(n, empty, 1, 1, 3, count(0, 3, 0, 0, 0)); !is || len(l) > 0 || e != api.OK {
		t.Errorf("Robust: %v, %v, %d", is, l, e)
	}
	if e := verify.Check(n, verify.Claim{Kind: verify.Count, Neurons: []int{}}); e != api.ErrArg {
		t.Errorf("Check: %d", e)
	}
}

// everything is what all functions return for arguments.
func everything(a args) []any {
	l, at, is, e := verify.Reach(a.n, a.v, a.pattern, a.ticks)
	v, f := verify.Bounds(a.n, a.sure, a.may, a.ticks)
	h, i := verify.Holds(a.n, a.c, a.spikes)
	y, j := verify.Certain(a.n, a.sure, a.may, a.ticks, a.c)
	k, m := verify.Runs(a.sure, a.jitter, a.losses)
	r, bad, o := verify.Robust(a.n, a.sure, a.jitter, a.losses, a.ticks, a.c)
	return []any{l, at, is, e, v, f, verify.Check(a.n, a.c), h, i, y, j, k, m, r, bad, o}
}

// R4: no argument is changed, and calls with the same arguments return the same, in new memory.
func TestR4Memory(t *testing.T) {
	var g generator = 35
	draw := func(seed generator) args {
		g := seed
		n := g.network()
		a := args{n: n, v: g.surroundings(n, 2, 9), pattern: g.pattern(n, 3), sure: g.events(all(n), 9, 12), may: g.events(all(n), 9, 6), jitter: 1, losses: 1, ticks: 9, c: g.claim(n, 9)}
		a.sure = a.sure[:min(len(a.sure), 4)]
		a.spikes = g.events(all(n), 9, 3)
		return a
	}
	for range 100 {
		seed := generator(g.below(1 << 30))
		a, b := draw(seed), draw(seed)
		one := everything(a)
		if !reflect.DeepEqual(a, b) {
			t.Fatalf("arguments have changed: %+v, before %+v", a, b)
		}
		two := everything(b)
		if !reflect.DeepEqual(one, two) {
			t.Fatalf("%+v: %v, and then %v", a, one, two)
		}
		for _, x := range one {
			overwrite(x)
		}
		if three := everything(a); !reflect.DeepEqual(a, b) || !reflect.DeepEqual(three, two) {
			t.Fatalf("%+v: results share memory with something: %v, %v", a, three, two)
		}
	}
}

// overwrite fills what lists of a result have space for.
func overwrite(x any) {
	switch l := x.(type) {
	case []api.Event:
		l = l[:cap(l)]
		for i := range l {
			l[i] = api.Event{Tick: -77, Id: -77}
		}
	case [][]int:
		for _, row := range l {
			row = row[:cap(row)]
			for i := range row {
				row[i] = -77
			}
		}
	}
}

// R4: the rows of verdicts share no memory.
func TestR4Rows(t *testing.T) {
	v, _ := verify.Bounds(chain(), ev(0, 0), ev(2, 0), 7)
	w, _ := verify.Bounds(chain(), ev(0, 0), ev(2, 0), 7)
	for i := range v {
		overwrite(v[i : i+1])
		if !slices.EqualFunc(v[i+1:], w[i+1:], slices.Equal[[]int]) {
			t.Errorf("the row %d shares memory with a later one", i)
		}
	}
}

// P0: no arguments make a function panic, and an error, or false, comes alone.
func TestP0AnyArguments(t *testing.T) {
	var g generator = 37
	edges := []int{-1 << 63, -1<<63 + 1, -1 << 32, -65, -2, -1, 0, 1, 2, 3, 6, 7, 8, 9, 63, 64, 65, 9998, 9999, 10000, 10001, 65536, 1 << 32, 1<<63 - 2, 1<<63 - 1}
	edge := func() int { return g.one(edges...) }
	small := func() int { return g.one(0, 1, 1, 2, 3, edge()) }
	ints := func(most int) []int {
		var l []int
		for range g.below(most + 1) {
			l = append(l, g.one(len(l), len(l), len(l), small()))
		}
		return l
	}
	events := func() []api.Event {
		var l []api.Event
		for range g.below(4) {
			l = append(l, api.Event{Tick: g.one(len(l), len(l), len(l), edge()), Id: g.one(0, 0, 0, small())})
		}
		return l
	}
	fine, faults := 0, 0
	for range 3000 {
		a := args{n: g.network(), sure: events(), may: events(), jitter: small(), losses: small(), ticks: g.one(5, 5, 5, small()), spikes: events()}
		if g.below(10) == 0 {
			a.n.Synapses[0] = syn(edge(), edge(), edge(), edge())
		}
		a.v = verify.Env{Free: ints(7), Fixed: events(), Most: small()}
		for range g.below(11) {
			a.pattern = append(a.pattern, verify.Moment{Must: ints(2), Not: ints(2)})
		}
		a.c = verify.Claim{Kind: g.one(1, 1, 2, 2, edge()), Neurons: ints(3), From: g.one(0, 0, edge()), To: g.one(1, 2, edge()), Lo: g.one(0, 0, edge()), Hi: g.one(5, 5, edge())}
		out := everything(a)
		var results []any
		for _, x := range out {
			e, is := x.(api.Errno)
			if !is {
				results = append(results, x)
				continue
			}
			if e == api.OK {
				fine++
			} else {
				faults++
				for _, y := range results {
					if e < api.OK || e > api.ErrDiff || !reflect.ValueOf(y).IsZero() {
						t.Fatalf("%+v: %v beside the error %d", a, y, e)
					}
				}
			}
			results = nil
		}
	}
	if fine < 4000 || faults < 4000 {
		t.Errorf("%d calls without an error, %d with one", fine, faults)
	}
}
