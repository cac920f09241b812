package host_test

import (
	"fmt"
	"slices"
	"strings"
	"testing"

	"ganglion/api"
	"ganglion/chip"
	"ganglion/host"
	"ganglion/mesh"
	"ganglion/place"
)

func syn(from, to, weight, delay int) api.Synapse {
	return api.Synapse{From: from, To: to, Weight: weight, Delay: delay}
}

// neurons are so many neurons A of the document.
func neurons(n int) []api.Params {
	return slices.Repeat([]api.Params{{LeakKind: api.LeakLine, Leak: 1, Thresh: 5, Floor: -4, Rest: 1}}, n)
}

// chain is the network E of the document.
func chain() api.Net {
	return api.Net{Neurons: neurons(2), Inputs: 1, Synapses: []api.Synapse{syn(-1, 0, 6, 1), syn(0, 1, 6, 3)}}
}

// clock is a network of one neuron, which has a spike in every third tick.
func clock() api.Net { return api.Net{Neurons: []api.Params{{Bias: 1, Thresh: 3}}, Inputs: 1} }

// row is the chip of the chapter's examples, with so many cores.
func row(wide int, dead ...int) place.Chip {
	return place.Chip{Mesh: mesh.Spec{Wide: wide, High: 1, Room: 2}, Neurons: 1, Synapses: 4, Entries: 4, Bits: 3, Dead: dead}
}

// prices are different for everything.
var prices = chip.Prices{Update: 1, Spike: 10, Hop: 100, Row: 1000, Step: 10000}

// look says all that a host shows of itself.
func look(h *host.Host) string {
	var s strings.Builder
	energy, e := h.Energy(prices)
	fmt.Fprintln(&s, "free", h.Free(), "skew", h.Skew(), "energy", energy, e)
	for _, name := range h.Jobs() {
		x, e := h.Info(name)
		w, f := h.Work(name)
		fmt.Fprintln(&s, name, x, e, w, f)
	}
	return s.String()
}

// The functions for calls that are known to be valid.

func newHost(t *testing.T, c place.Chip) *host.Host {
	t.Helper()
	h, e := host.New(c)
	if e != api.OK {
		t.Fatalf("New(%v): the error %d", c, e)
	}
	return h
}

// started is a host with jobs that run the same network, with the periods 1, 2 and so on.
func started(t *testing.T, c place.Chip, n api.Net, names ...string) *host.Host {
	t.Helper()
	h := newHost(t, c)
	for i, name := range names {
		good(t, "Start of "+name, h.Start(name, n, i+1))
	}
	return h
}

func good(t *testing.T, what string, e api.Errno) {
	t.Helper()
	if e != api.OK {
		t.Fatalf("%s: the error %d", what, e)
	}
}

// fails checks that a call with this error has changed nothing.
func fails(t *testing.T, h *host.Host, want api.Errno, what string, call func() api.Errno) {
	t.Helper()
	before := look(h)
	if e := call(); e != want {
		t.Errorf("%s: the error %d, want %d", what, e, want)
	}
	if after := look(h); after != before {
		t.Errorf("%s: changed from\n%sto\n%s", what, before, after)
	}
}

// in returns the input of a job.
func in(job string, ids ...int) host.Input { return host.Input{Job: job, Ids: ids} }

// text writes outputs.
func text(l []host.Output) string {
	s := ""
	for _, x := range l {
		s += fmt.Sprint(x.Job, x.Spikes)
	}
	return s
}

// round does a round, and compares what it returns.
func round(t *testing.T, h *host.Host, want string, l ...host.Input) {
	t.Helper()
	out, e := h.Round(l)
	if e != api.OK || text(out) != want {
		t.Errorf("Round(%v): %s, %d, want %s", l, text(out), e, want)
	}
}

// rounds does so many rounds without inputs.
func rounds(t *testing.T, h *host.Host, n int) {
	t.Helper()
	for i := range n {
		if _, e := h.Round(nil); e != api.OK {
			t.Fatalf("the round %d: the error %d", i, e)
		}
	}
}

// info compares what is known of a job.
func info(t *testing.T, h *host.Host, name string, want host.Info) {
	t.Helper()
	x, e := h.Info(name)
	if e != api.OK || fmt.Sprint(x) != fmt.Sprint(want) {
		t.Errorf("Info(%s): %+v, %d, want %+v", name, x, e, want)
	}
}

// on is what is known of a job that runs.
func on(tick, clock int, cores ...int) host.Info {
	return host.Info{State: host.Running, Tick: tick, Clock: clock, Assign: cores, Exact: true}
}

func free(t *testing.T, h *host.Host, want ...int) {
	t.Helper()
	if l := h.Free(); !slices.Equal(l, want) {
		t.Errorf("Free: %v, want %v", l, want)
	}
}

// work compares the work of a job.
func work(t *testing.T, h *host.Host, name string, want chip.Work) {
	t.Helper()
	if w, e := h.Work(name); e != api.OK || w != want {
		t.Errorf("Work(%s): %+v, %d, want %+v", name, w, e, want)
	}
}

// P13.2 to P13.6: the examples of the chapter, and number 10 of the document.
func TestP13_2Examples(t *testing.T) {
	h := newHost(t, row(3))
	good(t, "Start", h.Start("a", chain(), 10))
	info(t, h, "a", on(0, 0, 0, 1))
	free(t, h, 2)
	fails(t, h, api.ErrFull, "b", func() api.Errno { return h.Start("b", chain(), 7) })
	fails(t, h, api.ErrHave, "a again", func() api.Errno { return h.Start("a", chain(), 1) })
	fails(t, h, api.ErrName, "B", func() api.Errno { return h.Start("B", chain(), 1) })
	round(t, h, "a[]", in("a", 0))
	round(t, h, "a[0]")
	info(t, h, "a", on(2, 20, 0, 1))
	good(t, "Move", h.Move("a", []int{0, 2}))
	free(t, h, 1)
	round(t, h, "a[]")
	round(t, h, "a[]")
	round(t, h, "a[1]")
	good(t, "Save", h.Save("a"))
	if name, e := h.Fail(2); name != "a" || e != api.OK {
		t.Errorf("Fail: %s, %d", name, e)
	}
	info(t, h, "a", host.Info{State: host.Lost, Tick: 5, Clock: 50})
	good(t, "Restore", h.Restore("a"))
	info(t, h, "a", on(5, 50, 0, 1))
	if name, e := h.Fail(2); name != "" || e != api.ErrDown {
		t.Errorf("Fail again: %s, %d", name, e)
	}
	if name, e := h.Fail(0); name != "a" || e != api.OK {
		t.Errorf("Fail(0): %s, %d", name, e)
	}
	fails(t, h, api.ErrFull, "Restore", func() api.Errno { return h.Restore("a") })
	good(t, "Stop", h.Stop("a"))
	free(t, h, 1)
}

// P13.1: New returns the error of CheckChip, otherwise a host without jobs.
func TestP13_1New(t *testing.T) {
	change := func(f func(c *place.Chip)) place.Chip {
		c := row(3)
		f(&c)
		return c
	}
	for what, x := range map[string]struct {
		c    place.Chip
		want api.Errno
	}{
		"no columns":        {change(func(c *place.Chip) { c.Mesh.Wide = 0 }), api.ErrRange},
		"too many rows":     {change(func(c *place.Chip) { c.Mesh.High = 9 }), api.ErrRange},
		"no room":           {change(func(c *place.Chip) { c.Mesh.Room = 0 }), api.ErrRange},
		"no neurons":        {change(func(c *place.Chip) { c.Neurons = 0 }), api.ErrRange},
		"too many synapses": {change(func(c *place.Chip) { c.Synapses = 4097 }), api.ErrRange},
		"no entries":        {change(func(c *place.Chip) { c.Entries = 0 }), api.ErrRange},
		"too few bits":      {change(func(c *place.Chip) { c.Bits = 1 }), api.ErrRange},
		"dead twice":        {row(3, 1, 1), api.ErrHave},
		"dead, not there":   {row(3, 1, 3), api.ErrRange},
		"dead below 0":      {row(3, -1, -1), api.ErrRange},
	} {
		if h, e := host.New(x.c); h != nil || e != x.want {
			t.Errorf("New, %s: %v, %d, want %d", what, h, e, x.want)
		}
	}
	h := newHost(t, row(5, 3, 1))
	if look(h) != "free [0 2 4] skew 0 energy 0 0\n" {
		t.Errorf("New: %s", look(h))
	}
	free(t, newHost(t, row(2, 0, 1)))
	c := row(8)
	c.Mesh.High = 8
	if l := newHost(t, c).Free(); len(l) != 64 || l[0] != 0 || l[63] != 63 {
		t.Errorf("New: %v", l)
	}
}

// P13.1: a copy is in the same state, and both go on by themselves.
func TestP13_1Copy(t *testing.T) {
	h := started(t, row(8, 7), chain(), "a", "b", "c")
	round(t, h, "a[]b[]c[]", in("a", 0), in("b", 0))
	rounds(t, h, 1)
	good(t, "Save", h.Save("b"))
	good(t, "Pause", h.Pause("a"))
	h.Fail(5)
	rounds(t, h, 1)
	other := h.Copy()
	before := look(h)
	if look(other) != before {
		t.Errorf("Copy: %s, want %s", look(other), before)
	}
	change := func(h *host.Host) {
		t.Helper()
		good(t, "Resume", h.Resume("a"))
		good(t, "Stop", h.Stop("c"))
		h.Fail(2)
		good(t, "Restore", h.Restore("b"))
		rounds(t, h, 2)
		round(t, h, "a[1]b[1]", in("a", 0))
		good(t, "Move", h.Move("a", []int{1, 6}))
		good(t, "Save", h.Save("a"))
		good(t, "Start", h.Start("d", clock(), 3))
		rounds(t, h, 2)
	}
	change(other)
	if look(h) != before || look(other) == before {
		t.Errorf("changed: %s, want %s", look(h), before)
	}
	third := h.Copy()
	change(h)
	if look(h) != look(other) || look(third) != before {
		t.Errorf("behind the same calls: %s, want %s", look(h), look(other))
	}
}

// P13.2: which names are names, and that this is examined first.
func TestP13_2Names(t *testing.T) {
	for _, name := range []string{"a", "z", "a_", "a_1", "z09", "abcdefghijkl", "m___________"} {
		h := newHost(t, row(1))
		if e := h.Start(name, clock(), 1); e != api.OK || !slices.Equal(h.Jobs(), []string{name}) {
			t.Errorf("Start(%q): %d, %v", name, e, h.Jobs())
		}
	}
	h := started(t, row(2), clock(), "a")
	for _, name := range []string{"", "A", "aA", "_a", "1", "0a", "a-", "a ", " a", "a.", "a\x00", "a/", "a:", "a@", "a[", "a^", "a`", "a{", "`", "{", "\xe4", "a\xe4", "ä", "aä", "a\n", "abcdefghijklm", strings.Repeat("a", 100000)} {
		fails(t, h, api.ErrName, "Start of "+name, func() api.Errno { return h.Start(name, api.Net{}, 0) })
		for i, e := range []api.Errno{h.Stop(name), h.Pause(name), h.Resume(name), h.Move(name, nil), h.Save(name), h.Restore(name)} {
			if e != api.ErrNone {
				t.Errorf("the call %d of %q: %d", i, name, e)
			}
		}
	}
}

// P13.2: the errors of Start, and their order.
func TestP13_2Errors(t *testing.T) {
	h := started(t, row(4, 1), chain(), "a")
	many := api.Net{Neurons: neurons(256), Inputs: 1}
	for what, x := range map[string]struct {
		name   string
		n      api.Net
		period int
		want   api.Errno
	}{
		"there is one":             {"a", api.Net{}, 0, api.ErrHave},
		"no period":                {"b", api.Net{}, 0, api.ErrRange},
		"a period below 0":         {"b", api.Net{}, -1, api.ErrRange},
		"a long period":            {"b", api.Net{}, 1000001, api.ErrRange},
		"no neurons":               {"b", api.Net{}, 1, api.ErrArg},
		"too many neurons":         {"b", api.Net{Neurons: neurons(1025)}, 1, api.ErrMany},
		"inputs below 0":           {"b", api.Net{Neurons: neurons(9), Inputs: -1}, 1, api.ErrRange},
		"a neuron":                 {"b", api.Net{Neurons: make([]api.Params, 300)}, 1, api.ErrRange},
		"a synapse":                {"b", api.Net{Neurons: neurons(300), Synapses: []api.Synapse{syn(-1, 0, 1, 1)}}, 1, api.ErrRange},
		"too many sources":         {"b", many, 1, api.ErrMany},
		"no room for the neurons":  {"b", api.Net{Neurons: neurons(2)}, 1, api.ErrFull},
		"no room for the synapses": {"b", api.Net{Neurons: neurons(1), Synapses: slices.Repeat([]api.Synapse{syn(0, 0, 1, 1)}, 5)}, 1, api.ErrFull},
	} {
		fails(t, h, x.want, "Start, "+what, func() api.Errno { return h.Start(x.name, x.n, x.period) })
	}
	good(t, "Start", h.Start("b", api.Net{Neurons: neurons(1), Inputs: 255, Synapses: slices.Repeat([]api.Synapse{syn(0, 0, 1, 1)}, 4)}, 1))
	free(t, h)
	fails(t, h, api.ErrFull, "Start without free cores", func() api.Errno { return h.Start("c", clock(), 1) })
}

// P13.2: a period is from 1 to MaxPeriod, and a job has one tick for each of them.
func TestP13_2Periods(t *testing.T) {
	h := newHost(t, row(2))
	good(t, "Start", h.Start("a", clock(), 1))
	good(t, "Start", h.Start("b", clock(), host.MaxPeriod))
	rounds(t, h, 3)
	info(t, h, "a", on(3, 3, 0))
	info(t, h, "b", on(3, 3000000, 1))
}

// P13.2: at most MaxJobs jobs, in whatever states these are.
func TestP13_2Many(t *testing.T) {
	c := row(8)
	c.Mesh.High = 5
	h := newHost(t, c)
	for i := range host.MaxJobs {
		good(t, "Start", h.Start(fmt.Sprint("j", i), clock(), i+1))
	}
	good(t, "Pause", h.Pause("j3"))
	h.Fail(7)
	fails(t, h, api.ErrHave, "there is one", func() api.Errno { return h.Start("j3", clock(), 0) })
	fails(t, h, api.ErrMany, "too many", func() api.Errno { return h.Start("k", api.Net{}, 0) })
	fails(t, h, api.ErrName, "no name", func() api.Errno { return h.Start("0", api.Net{}, 0) })
	if l := h.Jobs(); len(l) != 32 || !slices.IsSorted(l) {
		t.Errorf("Jobs: %v", l)
	}
	good(t, "Stop", h.Stop("j7")) // which was lost
	good(t, "Start", h.Start("k", clock(), 1))
	fails(t, h, api.ErrMany, "too many again", func() api.Errno { return h.Start("l", clock(), 1) })
}

// P13.2: the free cores with the least numbers are chosen, and as few as it needs.
func TestP13_2Choose(t *testing.T) {
	c := row(6, 0, 3)
	h := started(t, c, chain(), "a", "b")
	info(t, h, "a", on(0, 0, 1, 2))
	info(t, h, "b", on(0, 0, 4, 5))
	good(t, "Stop", h.Stop("a"))
	good(t, "Start", h.Start("c", clock(), 1))
	info(t, h, "c", on(0, 0, 1))
	free(t, h, 2)

	c.Neurons = 2
	h = started(t, c, chain(), "a", "b")
	info(t, h, "a", on(0, 0, 1, 1))
	info(t, h, "b", on(0, 0, 2, 2))

	// two neurons fit one core, but not their synapses
	c.Synapses = 1
	h = started(t, c, chain(), "a")
	info(t, h, "a", on(0, 0, 1, 2))

	// the neuron 1 has no space beside the neuron 0, the neuron 2 has a synapse to it, and the neuron 3 is alone
	c.Synapses = 2
	n := api.Net{Neurons: neurons(4), Synapses: []api.Synapse{syn(0, 0, 1, 1), syn(0, 0, 1, 1), syn(2, 1, 1, 1)}}
	h = started(t, c, n, "a", "b")
	info(t, h, "a", on(0, 0, 1, 2, 2, 1))
	info(t, h, "b", on(0, 0, 4, 5, 5, 4))
	h.Fail(4)
	fails(t, h, api.ErrFull, "Restore", func() api.Errno { return h.Restore("b") })
	h.Fail(1)
	good(t, "Restore", h.Restore("a"))
	info(t, h, "a", on(0, 0, 2, 5, 5, 2))
}

// P13.2: a job does not fit where it can be placed, but not mapped.
func TestP13_2Tables(t *testing.T) {
	// However many cores are free, all neurons get the first one, where the keys 0, 1 and 2 need two entries.
	c := row(3)
	c.Neurons, c.Entries = 3, 1
	n := api.Net{Neurons: neurons(3), Synapses: []api.Synapse{syn(0, 1, 1, 1), syn(1, 2, 1, 1), syn(2, 0, 1, 1)}}
	for k := 1; k <= 3; k++ {
		on := c
		for core := k; core < 3; core++ {
			on.Dead = append(on.Dead, core)
		}
		cores, e := place.Place(n, on)
		if _, f := place.Map(n, on, cores); e != api.OK || f != api.ErrFull {
			t.Fatalf("%d cores: %v, %d, %d", k, cores, e, f)
		}
	}
	h := newHost(t, c)
	fails(t, h, api.ErrFull, "Start", func() api.Errno { return h.Start("a", n, 1) })
	c.Entries = 2
	good(t, "Start", newHost(t, c).Start("a", n, 1))
}

// P13.2: Stop, Pause and Resume, in all states.
func TestP13_2States(t *testing.T) {
	h := started(t, row(3), clock(), "a")
	state := func(want int) {
		t.Helper()
		if x, e := h.Info("a"); x.State != want || e != api.OK {
			t.Errorf("the state %d, %d, want %d", x.State, e, want)
		}
	}
	state(host.Running)
	fails(t, h, api.ErrState, "Resume", func() api.Errno { return h.Resume("a") })
	fails(t, h, api.ErrState, "Restore", func() api.Errno { return h.Restore("a") })
	good(t, "Pause", h.Pause("a"))
	state(host.Paused)
	fails(t, h, api.ErrState, "Pause", func() api.Errno { return h.Pause("a") })
	fails(t, h, api.ErrState, "Restore", func() api.Errno { return h.Restore("a") })
	good(t, "Resume", h.Resume("a"))
	state(host.Running)
	good(t, "Pause", h.Pause("a"))
	h.Fail(0)
	state(host.Lost)
	fails(t, h, api.ErrState, "Pause", func() api.Errno { return h.Pause("a") })
	fails(t, h, api.ErrState, "Resume", func() api.Errno { return h.Resume("a") })
	fails(t, h, api.ErrState, "Save", func() api.Errno { return h.Save("a") })
	fails(t, h, api.ErrState, "Move", func() api.Errno { return h.Move("a", nil) })
	good(t, "Restore", h.Restore("a"))
	state(host.Running)
	for _, in := range []func(){
		func() {},
		func() { h.Pause("a") },
		func() { h.Fail(1) },
	} {
		in()
		good(t, "Stop", h.Stop("a"))
		if _, e := h.Info("a"); e != api.ErrNone || len(h.Jobs()) != 0 {
			t.Errorf("a job that was stopped: %d, %v", e, h.Jobs())
		}
		fails(t, h, api.ErrNone, "Stop", func() api.Errno { return h.Stop("a") })
		good(t, "Start", h.Start("a", clock(), 1))
	}
	info(t, h, "a", on(0, 0, 2))
}

// P13.3: each running job does a tick, with its events, and is in the output by its name.
func TestP13_3Round(t *testing.T) {
	h := newHost(t, row(8))
	round(t, h, "")
	for _, name := range []string{"b", "a_", "c", "a"} {
		good(t, "Start", h.Start(name, chain(), 1))
	}
	round(t, h, "a[]a_[]b[]c[]", in("c", 0), in("a", 0), in("b"))
	good(t, "Pause", h.Pause("c"))
	h.Fail(3)
	round(t, h, "a[0]b[]", in("b", 0))
	round(t, h, "a[]b[0]")
	good(t, "Resume", h.Resume("c"))
	round(t, h, "a[]b[]c[0]", in("c", 0))
	round(t, h, "a[1]b[]c[]")
	info(t, h, "c", on(3, 3, 4, 5))
	rounds(t, h, 1)
	for _, name := range []string{"a", "b", "c"} {
		good(t, "Pause", h.Pause(name))
	}
	round(t, h, "")
	info(t, h, "a", host.Info{State: host.Paused, Tick: 6, Clock: 6, Assign: []int{6, 7}, Exact: true})
}

// P13.3: the errors of Round, and that nothing was done with one.
func TestP13_3Errors(t *testing.T) {
	n := chain()
	n.Inputs = 3
	n.Synapses[0].From = -3
	h := started(t, row(8), n, "a", "b", "c", "d")
	round(t, h, "a[]b[]c[]d[]", in("a", 2), in("b", 0, 1, 2))
	good(t, "Pause", h.Pause("c"))
	h.Fail(7)
	for what, x := range map[string]struct {
		l    []host.Input
		want api.Errno
	}{
		"no job":                      {[]host.Input{in("z", -1)}, api.ErrNone},
		"no name":                     {[]host.Input{in("", -1)}, api.ErrNone},
		"paused":                      {[]host.Input{in("c", -1)}, api.ErrState},
		"lost":                        {[]host.Input{in("d", -1)}, api.ErrState},
		"paused, twice":               {[]host.Input{in("a"), in("c"), in("c")}, api.ErrState},
		"twice":                       {[]host.Input{in("a", 0), in("a", -1)}, api.ErrHave},
		"twice, not behind itself":    {[]host.Input{in("a"), in("b"), in("a")}, api.ErrHave},
		"no such input":               {[]host.Input{in("a", 3)}, api.ErrRange},
		"below 0":                     {[]host.Input{in("b", 1), in("a", 0, -1)}, api.ErrRange},
		"not ascending":               {[]host.Input{in("b", 0), in("a", 1, 0)}, api.ErrArg},
		"equal":                       {[]host.Input{in("b", 0), in("a", 2, 2, 3)}, api.ErrArg},
		"first an input, then no job": {[]host.Input{in("a", 3), in("z")}, api.ErrRange},
		"first no job, then an input": {[]host.Input{in("b", 2), in("z"), in("a", 3)}, api.ErrNone},
		"first paused, then twice":    {[]host.Input{in("b"), in("c"), in("b")}, api.ErrState},
	} {
		fails(t, h, x.want, "Round, "+what, func() api.Errno {
			out, e := h.Round(x.l)
			if len(out) != 0 {
				t.Errorf("Round, %s: %v", what, out)
			}
			return e
		})
	}
	// as if there had been none of these rounds
	round(t, h, "a[0]b[0]")
	round(t, h, "a[]b[]")
	round(t, h, "a[]b[]")
	round(t, h, "a[1]b[1]")
}

// P13.3: a job at MaxTicks can do no tick; with an input this is ErrLong of its machine, without one ErrFull.
func TestP13_3Full(t *testing.T) {
	h := started(t, row(3), clock(), "b")
	rounds(t, h, api.MaxTicks-1)
	good(t, "Start", h.Start("a", clock(), 1))
	rounds(t, h, 1)
	good(t, "Start", h.Start("c", clock(), 1))
	full := func(want api.Errno, l ...host.Input) {
		t.Helper()
		fails(t, h, want, "Round", func() api.Errno {
			out, e := h.Round(l)
			if len(out) != 0 {
				t.Errorf("Round: %v", out)
			}
			return e
		})
	}
	full(api.ErrFull)
	full(api.ErrFull, in("a"), in("c", 0))
	full(api.ErrLong, in("b"))
	full(api.ErrLong, in("a"), in("b", -1), in("z"))
	full(api.ErrNone, in("a"), in("z"))
	full(api.ErrRange, in("c", 1), in("b"))
	good(t, "Move", h.Move("b", []int{0}))
	good(t, "Save", h.Save("b"))
	full(api.ErrFull)
	good(t, "Pause", h.Pause("b"))
	round(t, h, "a[]c[]")
	full(api.ErrState, in("b"))
	round(t, h, "a[0]c[]")
	h.Fail(0)
	round(t, h, "a[]c[0]")
	h.Stop("a")
	good(t, "Restore", h.Restore("b"))
	info(t, h, "b", host.Info{State: host.Running, Tick: 10000, Clock: 10000, Assign: []int{1}, Exact: true})
	full(api.ErrFull)
	work(t, h, "b", chip.Work{Ticks: 10000, Updates: 10000, Spikes: 3333})
}

// P13.4: the errors of Move, and their order.
func TestP13_4Errors(t *testing.T) {
	h := started(t, row(8, 7), chain(), "a", "b", "c")
	h.Fail(5)
	rounds(t, h, 2)
	for what, x := range map[string]struct {
		name  string
		cores []int
		want  api.Errno
	}{
		"no job":                   {"z", nil, api.ErrNone},
		"lost":                     {"c", nil, api.ErrState},
		"too few":                  {"a", []int{-1}, api.ErrShape},
		"too many":                 {"a", []int{0, 1, 2}, api.ErrShape},
		"none":                     {"a", nil, api.ErrShape},
		"below 0":                  {"a", []int{-1, 2}, api.ErrRange},
		"no such core":             {"a", []int{0, 8}, api.ErrRange},
		"far away":                 {"a", []int{1 << 62, 0}, api.ErrRange},
		"failed":                   {"a", []int{5, 2}, api.ErrDown},
		"dead from the start":      {"a", []int{0, 7}, api.ErrDown},
		"busy":                     {"a", []int{0, 3}, api.ErrBusy},
		"busy, then not there":     {"a", []int{2, 8}, api.ErrBusy},
		"full":                     {"a", []int{6, 6}, api.ErrFull},
		"first full, then busy":    {"a", []int{2, 2}, api.ErrBusy},
		"first down, then range":   {"a", []int{7, 8}, api.ErrDown},
		"of the job that was lost": {"a", []int{5, 4}, api.ErrDown},
	} {
		fails(t, h, x.want, "Move, "+what, func() api.Errno { return h.Move(x.name, x.cores) })
	}
	// the tables are too small for it
	c := row(3)
	c.Neurons, c.Entries = 3, 1
	n := api.Net{Neurons: neurons(2), Inputs: 1, Synapses: []api.Synapse{syn(0, 1, 1, 1), syn(-1, 0, 6, 1)}}
	h = started(t, c, n, "a")
	info(t, h, "a", on(0, 0, 0, 0))
	round(t, h, "a[]", in("a", 0))
	fails(t, h, api.ErrFull, "Move to two cores", func() api.Errno { return h.Move("a", []int{2, 1}) })
	round(t, h, "a[0]")
}

// P13.4: a job can be moved in whatever tick, also to its own cores, and goes on there.
func TestP13_4Move(t *testing.T) {
	h := started(t, row(6), chain(), "a", "b")
	round(t, h, "a[]b[]", in("a", 0), in("b", 0))
	good(t, "Move, turned", h.Move("a", []int{1, 0}))
	info(t, h, "a", on(1, 1, 1, 0))
	free(t, h, 4, 5)
	round(t, h, "a[0]b[0]")
	good(t, "Move, in part", h.Move("a", []int{1, 5}))
	free(t, h, 0, 4)
	good(t, "Move to where the other one was", h.Move("b", []int{0, 2}))
	free(t, h, 3, 4)
	good(t, "Pause", h.Pause("a"))
	good(t, "Move of a paused job", h.Move("a", []int{4, 3}))
	info(t, h, "a", host.Info{State: host.Paused, Tick: 2, Clock: 2, Assign: []int{4, 3}, Exact: true})
	round(t, h, "b[]")
	good(t, "Resume", h.Resume("a"))
	good(t, "Move to the same cores", h.Move("a", []int{4, 3}))
	round(t, h, "a[]b[]")
	round(t, h, "a[]b[1]")
	round(t, h, "a[1]b[]")
	info(t, h, "a", on(5, 5, 4, 3))
	info(t, h, "b", on(6, 12, 0, 2))
	free(t, h, 1, 5)
	c := row(3)
	c.Neurons = 2
	h = started(t, c, chain(), "a")
	good(t, "Move apart", h.Move("a", []int{2, 0}))
	free(t, h, 1)
	good(t, "Move together", h.Move("a", []int{1, 1}))
	free(t, h, 0, 2)
}

// P13.5: what was saved last is restored, with its clock, and on the cores that are free then.
func TestP13_5Restore(t *testing.T) {
	h := started(t, row(8), chain(), "a", "b")
	fails(t, h, api.ErrNone, "Save", func() api.Errno { return h.Save("z") })
	fails(t, h, api.ErrNone, "Restore", func() api.Errno { return h.Restore("z") })
	round(t, h, "a[]b[]", in("b", 0))
	round(t, h, "a[]b[0]")
	if name, e := h.Fail(0); name != "a" || e != api.OK {
		t.Errorf("Fail: %s, %d", name, e)
	}
	free(t, h, 1, 4, 5, 6, 7)
	info(t, h, "a", host.Info{State: host.Lost}) // it was saved when it was started
	good(t, "Pause", h.Pause("b"))
	good(t, "Save of a paused job", h.Save("b"))
	good(t, "Resume", h.Resume("b"))
	round(t, h, "b[]")
	round(t, h, "b[]")
	good(t, "Restore", h.Restore("a"))
	info(t, h, "a", on(0, 0, 1, 4))
	round(t, h, "a[]b[1]", in("a", 0))
	if name, e := h.Fail(3); name != "b" || e != api.OK {
		t.Errorf("Fail: %s, %d", name, e)
	}
	info(t, h, "b", host.Info{State: host.Lost, Tick: 2, Clock: 4})
	free(t, h, 2, 5, 6, 7)
	round(t, h, "a[0]")
	good(t, "Restore", h.Restore("b"))
	info(t, h, "b", on(2, 4, 2, 5))
	round(t, h, "a[]b[]")
	round(t, h, "a[]b[]")
	round(t, h, "a[1]b[1]") // once more
	// what was restored is saved still
	h.Fail(5)
	info(t, h, "b", host.Info{State: host.Lost, Tick: 2, Clock: 4})
	good(t, "Restore", h.Restore("b"))
	rounds(t, h, 2)
	round(t, h, "a[]b[1]")
	work(t, h, "b", chip.Work{Ticks: 11, Updates: 22, Spikes: 4, Packets: 2, Hops: 3, Arrivals: 2, Rows: 2, Steps: 5, Most: 3})
}

// P13.5: the errors of Fail and Restore, and cores that fail while nobody owns them.
func TestP13_5Fail(t *testing.T) {
	h := started(t, row(5, 3), chain(), "a")
	fail := func(core int, want string, e api.Errno) {
		t.Helper()
		before := look(h)
		if name, f := h.Fail(core); name != want || f != e {
			t.Errorf("Fail(%d): %q, %d, want %q, %d", core, name, f, want, e)
		}
		if e != api.OK && look(h) != before {
			t.Errorf("Fail(%d): %s, want %s", core, look(h), before)
		}
	}
	fail(-1, "", api.ErrRange)
	fail(5, "", api.ErrRange)
	fail(63, "", api.ErrRange)
	fail(64, "", api.ErrRange)
	fail(3, "", api.ErrDown)
	fail(2, "", api.OK)
	fail(2, "", api.ErrDown)
	free(t, h, 4)
	info(t, h, "a", on(0, 0, 0, 1))
	good(t, "Pause", h.Pause("a"))
	fail(1, "a", api.OK)
	free(t, h, 0, 4)
	fail(1, "", api.ErrDown)
	good(t, "Restore of a job that was paused", h.Restore("a"))
	info(t, h, "a", on(0, 0, 0, 4))
	fails(t, h, api.ErrState, "Restore", func() api.Errno { return h.Restore("a") })
	fail(4, "a", api.OK)
	fails(t, h, api.ErrFull, "Restore", func() api.Errno { return h.Restore("a") })
	fail(0, "", api.OK)
	free(t, h)
	fails(t, h, api.ErrFull, "Restore", func() api.Errno { return h.Restore("a") })
}

// P13.5: a job is restored in the room that another one leaves.
func TestP13_5Room(t *testing.T) {
	h := started(t, row(4), chain(), "a", "b")
	h.Fail(2)
	fails(t, h, api.ErrFull, "Restore", func() api.Errno { return h.Restore("b") })
	good(t, "Stop", h.Stop("a"))
	good(t, "Restore", h.Restore("b"))
	info(t, h, "b", on(0, 0, 0, 1))
}

// P13.6: Jobs and Info.
func TestP13_6Info(t *testing.T) {
	h := newHost(t, row(8))
	for _, name := range []string{"b", "a1", "a_", "aa", "a"} {
		good(t, "Start", h.Start(name, clock(), 7))
	}
	if l := h.Jobs(); !slices.Equal(l, []string{"a", "a1", "a_", "aa", "b"}) {
		t.Errorf("Jobs: %v", l)
	}
	for _, name := range []string{"", "z", "A", "a "} {
		if x, e := h.Info(name); e != api.ErrNone || fmt.Sprint(x) != fmt.Sprint(host.Info{}) {
			t.Errorf("Info(%q): %v, %d", name, x, e)
		}
		if w, e := h.Work(name); e != api.ErrNone || w != (chip.Work{}) {
			t.Errorf("Work(%q): %v, %d", name, w, e)
		}
	}
	// with two bits the weight 6 is not exact, but 1 and -2 are
	c := row(4)
	c.Bits = 2
	h = started(t, c, chain(), "a")
	n := chain()
	n.Synapses[0].Weight, n.Synapses[1].Weight = 1, -2
	good(t, "Start", h.Start("b", n, 1))
	info(t, h, "a", host.Info{State: host.Running, Assign: []int{0, 1}})
	info(t, h, "b", on(0, 0, 2, 3))
	round(t, h, "a[]b[]", in("a", 0), in("b", 0))
	good(t, "Pause", h.Pause("b"))
	good(t, "Pause", h.Pause("a"))
	info(t, h, "a", host.Info{State: host.Paused, Tick: 1, Clock: 1, Assign: []int{0, 1}})
	info(t, h, "b", host.Info{State: host.Paused, Tick: 1, Clock: 1, Assign: []int{2, 3}, Exact: true})
	h.Fail(3)
	info(t, h, "b", host.Info{State: host.Lost})
	good(t, "Stop", h.Stop("a"))
	good(t, "Restore", h.Restore("b"))
	info(t, h, "b", on(0, 0, 0, 1))
}

// P13.6: the work is that of all machines, also behind a move, and behind ticks that were lost.
func TestP13_6Work(t *testing.T) {
	h := started(t, row(6), chain(), "a")
	work(t, h, "a", chip.Work{})
	round(t, h, "a[]", in("a", 0))
	rounds(t, h, 5)
	near := chip.Work{Ticks: 6, Updates: 12, Spikes: 2, Packets: 2, Hops: 1, Arrivals: 2, Rows: 2, Steps: 3, Most: 2}
	work(t, h, "a", near)
	good(t, "Move", h.Move("a", []int{5, 2}))
	work(t, h, "a", near)
	round(t, h, "a[]", in("a", 0))
	rounds(t, h, 5)
	both := chip.Work{Ticks: 12, Updates: 24, Spikes: 4, Packets: 4, Hops: 1 + 8, Arrivals: 4, Rows: 4, Steps: 3 + 10, Most: 6}
	work(t, h, "a", both)
	h.Fail(5)
	work(t, h, "a", both)
	good(t, "Restore", h.Restore("a"))
	round(t, h, "a[]", in("a", 0))
	rounds(t, h, 5)
	all := chip.Work{Ticks: 18, Updates: 36, Spikes: 6, Packets: 6, Hops: 10, Arrivals: 6, Rows: 6, Steps: 16, Most: 6}
	work(t, h, "a", all)
	// a round with an error is no work
	h.Round([]host.Input{in("a", 0), in("z")})
	work(t, h, "a", all)
	good(t, "Stop", h.Stop("a"))
	good(t, "Start", h.Start("a", chain(), 1))
	work(t, h, "a", chip.Work{})
}

// P13.6: Energy is the sum over all jobs, of whatever state.
func TestP13_6Energy(t *testing.T) {
	h := newHost(t, row(6))
	energy := func(p chip.Prices, want int, wanted api.Errno) {
		t.Helper()
		if x, e := h.Energy(p); x != want || e != wanted {
			t.Errorf("Energy(%v): %d, %d, want %d, %d", p, x, e, want, wanted)
		}
	}
	energy(prices, 0, api.OK)
	for i := range 5 {
		for _, x := range []int{-1, chip.MaxPrice + 1} {
			p := prices
			*[]*int{&p.Update, &p.Spike, &p.Hop, &p.Row, &p.Step}[i] = x
			energy(p, 0, api.ErrRange)
		}
	}
	good(t, "Start", h.Start("a", chain(), 1))
	good(t, "Start", h.Start("b", chain(), 1))
	energy(chip.Prices{Step: -1}, 0, api.ErrRange)
	round(t, h, "a[]b[]", in("a", 0))
	rounds(t, h, 5)
	one := 12*1 + 2*10 + 1*100 + 2*1000 + 3*10000
	energy(prices, one+12, api.OK)
	good(t, "Pause", h.Pause("b"))
	round(t, h, "a[]", in("a", 0))
	rounds(t, h, 5)
	energy(prices, 2*one+12, api.OK)
	h.Fail(3)
	energy(prices, 2*one+12, api.OK)
	energy(chip.Prices{Hop: -1}, 0, api.ErrRange)
	energy(chip.Prices{Update: 1000000, Spike: 1000000, Hop: 1000000, Row: 1000000, Step: 1000000}, (36+4+2+4+6)*1000000, api.OK)
	good(t, "Stop", h.Stop("a"))
	energy(prices, 12, api.OK)
	good(t, "Stop", h.Stop("b"))
	energy(prices, 0, api.OK)
	energy(chip.Prices{Row: 1000001}, 0, api.ErrRange)
}

// P13.6: Skew is the difference between the clocks of the jobs that are running.
func TestP13_6Skew(t *testing.T) {
	h := newHost(t, row(6))
	skew := func(want int) {
		t.Helper()
		if x := h.Skew(); x != want {
			t.Errorf("Skew: %d, want %d", x, want)
		}
	}
	skew(0)
	good(t, "Start", h.Start("a", clock(), 10))
	rounds(t, h, 2)
	skew(0) // one job alone
	good(t, "Start", h.Start("b", clock(), 100))
	skew(20)
	rounds(t, h, 1)
	skew(70)
	good(t, "Start", h.Start("c", clock(), 1))
	skew(100)
	rounds(t, h, 2)
	skew(298)
	good(t, "Pause", h.Pause("c"))
	skew(250)
	good(t, "Save", h.Save("b"))
	rounds(t, h, 1)
	skew(340)
	h.Fail(1)
	skew(0)
	good(t, "Resume", h.Resume("c"))
	skew(58)
	good(t, "Restore", h.Restore("b")) // with the clock 300
	skew(298)
	good(t, "Stop", h.Stop("b"))
	good(t, "Stop", h.Stop("c"))
	good(t, "Pause", h.Pause("a"))
	skew(0)
}
