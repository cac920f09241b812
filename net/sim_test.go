package net_test

import (
	"math"
	"slices"
	"testing"

	"ganglion/api"
	"ganglion/net"
)

// P2.6: New, Step and Now, by the example.
func TestP2_6Step(t *testing.T) {
	s := newSim(t, netE())
	for now, x := range []struct{ inputs, want []int }{{[]int{0}, nil}, {nil, []int{0}}, {[]int{0}, nil}, {nil, []int{0}}, {[]int{}, []int{1}}, {nil, nil}, {nil, []int{1}}, {nil, nil}} {
		if s.Now() != now {
			t.Errorf("Now in the tick %d: %d", now, s.Now())
		}
		inputs := slices.Clone(x.inputs)
		if l := step(t, s, x.inputs); !slices.Equal(l, x.want) {
			t.Errorf("Step(%v) in the tick %d: %v, want %v", x.inputs, now, l, x.want)
		}
		if !slices.Equal(inputs, x.inputs) {
			t.Errorf("Step changed its argument to %v", x.inputs)
		}
	}
}

// P2.6: the neurons are in ascending order, whatever the order of the synapses is.
func TestP2_6StepOrder(t *testing.T) {
	n := many(neuronA, 5)
	n.Inputs = 2
	n.Synapses = []api.Synapse{syn(-2, 4, 6, 1), syn(-1, 3, 6, 1), syn(-2, 0, 6, 1), syn(-1, 1, 6, 1)}
	s := newSim(t, n)
	step(t, s, []int{0, 1})
	if l := step(t, s, nil); !slices.Equal(l, []int{0, 1, 3, 4}) {
		t.Errorf("Step: %v", l)
	}
}

// P2.6: the errors of Step, the first input that has one first; nothing changes with them.
func TestP2_6StepErrors(t *testing.T) {
	n := netE()
	n.Inputs = 3
	s := newSim(t, n)
	step(t, s, []int{0})
	before := image(t, s)
	for _, x := range []struct {
		inputs []int
		want   api.Errno
	}{
		{[]int{3}, api.ErrRange}, {[]int{-1}, api.ErrRange}, {[]int{0, math.MaxInt}, api.ErrRange}, {[]int{math.MinInt}, api.ErrRange},
		{[]int{0, 0}, api.ErrArg}, {[]int{2, 1}, api.ErrArg}, {[]int{1, 0, 9}, api.ErrArg}, {[]int{1, -1}, api.ErrRange}, {[]int{9, 1, 0}, api.ErrRange}, {[]int{0, 1, 2, 2}, api.ErrArg}, {[]int{0, 1, 2, 3}, api.ErrRange},
	} {
		l, e := s.Step(x.inputs)
		if e != x.want || len(l) != 0 {
			t.Errorf("Step(%v): %v, %d, want %d", x.inputs, l, e, x.want)
		}
		if !sameImage(image(t, s), before) || s.Now() != 1 {
			t.Errorf("Step(%v) changed something", x.inputs)
		}
	}
	if l := step(t, s, []int{0, 1, 2}); !slices.Equal(l, []int{0}) {
		t.Errorf("Step behind the errors: %v", l)
	}
	if e := func() api.Errno { _, e := newSim(t, many(neuronA, 1)).Step([]int{0}); return e }(); e != api.ErrRange {
		t.Errorf("Step without inputs: %d", e)
	}
}

// P2.6: there are MaxTicks ticks.
func TestP2_6StepLong(t *testing.T) {
	s := newSim(t, many(always, 1))
	for range api.MaxTicks {
		if l := step(t, s, nil); !slices.Equal(l, []int{0}) {
			t.Fatalf("Step before the tick %d: %v", s.Now(), l)
		}
	}
	before := image(t, s)
	for _, inputs := range [][]int{nil, {99}, {0, 0}} {
		if l, e := s.Step(inputs); e != api.ErrLong || len(l) != 0 || s.Now() != api.MaxTicks || !sameImage(image(t, s), before) {
			t.Errorf("Step(%v) behind the last tick: %v, %d", inputs, l, e)
		}
	}
	if c := s.Copy(); c.Now() != api.MaxTicks {
		t.Errorf("Copy behind the last tick: Now is %d", c.Now())
	}
}

// P2.6, R4: a simulation has its own network, image and lists.
func TestP2_6OwnMemory(t *testing.T) {
	n := netE()
	s := newSim(t, n)
	x := image(t, s)
	r := resume(t, n, x)
	clear(n.Neurons)
	clear(n.Synapses)
	clear(x.States)
	for _, row := range x.Due {
		for i := range row {
			row[i] = 99
		}
	}
	for _, s := range []*net.Sim{s, r} {
		inputs := []int{0}
		step(t, s, inputs)
		inputs[0] = 5
		l := step(t, s, nil)
		if !slices.Equal(l, []int{0}) {
			t.Errorf("the second Step: %v", l)
		}
		l[0] = 1
		step(t, s, nil)
		step(t, s, nil)
		if l := step(t, s, nil); !slices.Equal(l, []int{1}) {
			t.Errorf("the fifth Step: %v", l)
		}
	}
}

// P2.6: a copy is in the same state, and goes its own way.
func TestP2_6Copy(t *testing.T) {
	s := newSim(t, netL())
	step(t, s, []int{0})
	c := s.Copy()
	if c == s || !sameImage(image(t, c), image(t, s)) || c.Now() != 1 {
		t.Fatalf("Copy: %v, of %v", image(t, c), image(t, s))
	}
	before := image(t, c)
	for range 5 {
		step(t, s, []int{0})
	}
	if !sameImage(image(t, c), before) || c.Now() != 1 {
		t.Errorf("the copy changed with the simulation: %v, was %v", image(t, c), before)
	}
	before = image(t, s)
	d := c.Copy()
	for range 9 {
		step(t, c, nil)
	}
	if !sameImage(image(t, s), before) || s.Now() != 6 || d.Now() != 1 {
		t.Errorf("the simulation changed with its copy")
	}
	var l []int
	for range 5 {
		l = append(l, step(t, d, nil)...)
	}
	if !slices.Equal(l, []int{0, 0, 1, 0}) {
		t.Errorf("the copy of the copy: %v", l)
	}
}

// P2.7: Image, by the example.
func TestP2_7Image(t *testing.T) {
	s := newSim(t, netE())
	empty := func() net.Image {
		x := net.Image{States: make([]api.State, 2)}
		for range 16 {
			x.Due = append(x.Due, make([]int, 2))
		}
		return x
	}
	if x := image(t, s); !sameImage(x, empty()) {
		t.Errorf("Image at the beginning: %v", x)
	}
	step(t, s, []int{0})
	want := empty()
	want.Tick, want.Due[0][0] = 1, 6
	if x := image(t, s); !sameImage(x, want) {
		t.Errorf("Image behind an event: %v, want %v", x, want)
	}
	step(t, s, nil)
	want = empty()
	want.Tick, want.States[0].Rest, want.Due[2][1] = 2, 1, 6
	x := image(t, s)
	if !sameImage(x, want) {
		t.Errorf("Image behind a spike: %v, want %v", x, want)
	}
	clear(x.States)
	clear(x.Due)
	if x := image(t, s); !sameImage(x, want) {
		t.Errorf("Image shares memory with the simulation")
	}
}

// P2.7: the rows of an image are those of all delays, and the sums of several synapses.
func TestP2_7Due(t *testing.T) {
	n := many(neuronA, 2)
	n.Inputs = 2
	for d := 1; d <= 16; d++ {
		n.Synapses = append(n.Synapses, syn(-1, 1, 100+d, d), syn(-2, 1, -d, d))
	}
	s := newSim(t, n)
	for range 21 { // so that the rows do not begin where those of the first tick do
		step(t, s, nil)
	}
	step(t, s, []int{0, 1})
	x := image(t, s)
	for d, row := range x.Due {
		if row[0] != 0 || row[1] != 100 {
			t.Errorf("the row %d: %v", d, row)
		}
	}
	step(t, s, nil)
	x = image(t, s)
	if x.Due[14][1] != 100 || x.Due[15][1] != 0 {
		t.Errorf("the last rows a tick later: %v", x.Due[14:])
	}
}

// P2.7: the errors of Resume, and which of several comes first.
func TestP2_7ResumeErrors(t *testing.T) {
	good := image(t, newSim(t, netE()))
	tick := func(y int) func(*net.Image) { return func(x *net.Image) { x.Tick = y } }
	state := func(v, rest int) func(*net.Image) {
		return func(x *net.Image) { x.States[1] = api.State{V: v, Rest: rest} }
	}
	due := func(row, i, sum int) func(*net.Image) { return func(x *net.Image) { x.Due[row][i] = sum } }
	fewer := func(x *net.Image) { x.States = x.States[:1] }
	const m = 1 << 28
	for i, y := range []struct {
		changes []func(*net.Image)
		want    api.Errno
	}{
		{nil, api.OK}, {[]func(*net.Image){tick(api.MaxTicks)}, api.OK}, {[]func(*net.Image){tick(api.MaxTicks + 1)}, api.ErrRange}, {[]func(*net.Image){tick(-1)}, api.ErrRange}, {[]func(*net.Image){tick(math.MinInt)}, api.ErrRange}, {[]func(*net.Image){tick(math.MaxInt)}, api.ErrRange},
		{[]func(*net.Image){fewer}, api.ErrShape}, {[]func(*net.Image){func(x *net.Image) { x.States = append(x.States, api.State{}) }}, api.ErrShape}, {[]func(*net.Image){func(x *net.Image) { x.States = nil }}, api.ErrShape},
		{[]func(*net.Image){func(x *net.Image) { x.Due = x.Due[1:] }}, api.ErrShape}, {[]func(*net.Image){func(x *net.Image) { x.Due = append(x.Due, x.Due[0]) }}, api.ErrShape}, {[]func(*net.Image){func(x *net.Image) { x.Due = nil }}, api.ErrShape},
		{[]func(*net.Image){func(x *net.Image) { x.Due[15] = x.Due[15][1:] }}, api.ErrShape}, {[]func(*net.Image){func(x *net.Image) { x.Due[0] = append(x.Due[0], 0) }}, api.ErrShape}, {[]func(*net.Image){func(x *net.Image) { x.Due[7] = nil }}, api.ErrShape},
		{[]func(*net.Image){state(-4, 1)}, api.OK}, {[]func(*net.Image){state(-5, 0)}, api.ErrRange}, {[]func(*net.Image){state(api.MaxV, 0)}, api.OK}, {[]func(*net.Image){state(api.MaxV+1, 0)}, api.ErrRange}, {[]func(*net.Image){state(0, 2)}, api.ErrRange}, {[]func(*net.Image){state(0, -1)}, api.ErrRange},
		{[]func(*net.Image){due(0, 0, m), due(15, 1, -m)}, api.OK}, {[]func(*net.Image){due(0, 0, m+1)}, api.ErrRange}, {[]func(*net.Image){due(15, 1, -m-1)}, api.ErrRange}, {[]func(*net.Image){due(3, 1, math.MaxInt)}, api.ErrRange}, {[]func(*net.Image){due(3, 1, math.MinInt)}, api.ErrRange},
		// several errors
		{[]func(*net.Image){tick(-1), fewer}, api.ErrRange}, {[]func(*net.Image){state(-5, 0), func(x *net.Image) { x.Due = x.Due[1:] }}, api.ErrShape}, {[]func(*net.Image){due(0, 0, m+1), func(x *net.Image) { x.Due[15] = nil }}, api.ErrShape},
	} {
		x := cloneImage(good)
		for _, change := range y.changes {
			change(&x)
		}
		before := cloneImage(x)
		s, e := net.Resume(netE(), x)
		if e != y.want || (s == nil) != (e != api.OK) {
			t.Errorf("Resume, the case %d: %d, want %d", i, e, y.want)
		}
		if !sameImage(x, before) {
			t.Errorf("Resume, the case %d: the image was changed", i)
		}
		if e == api.OK && (!sameImage(image(t, s), x) || s.Now() != x.Tick) {
			t.Errorf("Resume, the case %d: the image is %v, want %v", i, image(t, s), x)
		}
	}
}

// P2.7: what a resumed simulation does is what its image says, also in the last tick, and behind it.
func TestP2_7Resume(t *testing.T) {
	x := image(t, newSim(t, netE()))
	x.Tick, x.States[0], x.Due[0][1], x.Due[1][0] = 9998, api.State{V: 3}, 6, 3
	s := resume(t, netE(), x)
	if l := step(t, s, nil); !slices.Equal(l, []int{1}) {
		t.Errorf("the tick 9998: %v", l)
	}
	if l := step(t, s, []int{0}); len(l) != 0 || s.Now() != api.MaxTicks {
		t.Errorf("the tick 9999: %v", l)
	}
	y := image(t, s)
	if !slices.Equal(y.States, []api.State{{V: 4}, {}}) || y.Due[0][0] != 6 {
		t.Errorf("the image behind the last tick: %v", y)
	}
	if _, e := resume(t, netE(), y).Step(nil); e != api.ErrLong {
		t.Errorf("Step behind the last tick: %d", e)
	}
}

// P2.7: what is due does not wrap around, also if it was the greatest number before.
func TestP2_7GreatSums(t *testing.T) {
	n := netE()
	n.Synapses = slices.Repeat([]api.Synapse{syn(-1, 0, api.MaxWeight, 3)}, api.MaxSynapses)
	x := image(t, newSim(t, n))
	for _, row := range x.Due {
		row[0], row[1] = 1<<28, -1<<28
	}
	s := resume(t, n, x)
	step(t, s, []int{0})
	if y := image(t, s); y.Due[2][0] != 1<<29 || y.States[1].V != -4 {
		t.Errorf("the sum of what was due and what was sent: %v", y)
	}
}
