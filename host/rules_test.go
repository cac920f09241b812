package host_test

import (
	"fmt"
	"slices"
	"testing"

	"ganglion/api"
	"ganglion/chip"
	"ganglion/host"
	"ganglion/place"
)

// P0, R2: for any arguments every function ends, without a panic, and with an error nothing has changed.
func TestP0AnyArguments(t *testing.T) {
	var g generator = 53
	number := func() int {
		if g.below(4) == 0 {
			return g.one(edges...)
		}
		return g.from(0, 3)
	}
	list := func() []int {
		var l []int
		for range g.below(4) {
			l = append(l, number())
		}
		return l
	}
	right, wrong := 0, 0
	for range 400 {
		c := g.chip()
		field := []*int{&c.Mesh.Wide, &c.Mesh.High, &c.Mesh.Room, &c.Neurons, &c.Synapses, &c.Entries, &c.Bits}
		if g.below(3) == 0 {
			*field[g.below(len(field))] = number()
		}
		h, e := host.New(c)
		if (h == nil) != (e != api.OK) {
			t.Fatalf("New(%v): %v, %d", c, h, e)
		}
		for range 40 {
			n := g.network()
			if g.below(4) == 0 {
				n.Inputs = number()
				n.Synapses = append(n.Synapses, syn(number(), number(), number(), number()))
			}
			var l []host.Input
			for range g.below(4) {
				l = append(l, host.Input{Job: g.name(), Ids: list()})
			}
			before, e, none := look(h), api.OK, true
			switch g.below(10) {
			case 0:
				e = h.Start(g.name(), n, number())
			case 1:
				e = h.Stop(g.name())
			case 2:
				e = h.Pause(g.name())
			case 3:
				e = h.Resume(g.name())
			case 4, 5:
				var out []host.Output
				out, e = h.Round(l)
				none = len(out) == 0
			case 6:
				e = h.Move(g.name(), list())
			case 7:
				e = h.Save(g.name())
			case 8:
				var name string
				name, e = h.Fail(number())
				none = name == ""
			case 9:
				e = h.Restore(g.name())
			}
			if e == api.OK {
				right++
				continue
			}
			wrong++
			if look(h) != before || !none {
				t.Fatalf("the error %d: %s, want %s", e, look(h), before)
			}
		}
		h.Energy(chip.Prices{Update: number(), Spike: number(), Hop: number(), Row: number(), Step: number()})
	}
	if right < 1000 || wrong < 1000 {
		t.Errorf("%d calls without an error, %d with one", right, wrong)
	}
}

// P0: the greatest chip, full of jobs, and networks for which there is no room.
func TestP0Great(t *testing.T) {
	c := place.Chip{Neurons: 64, Synapses: 4096, Entries: 1, Bits: 16}
	c.Mesh.Wide, c.Mesh.High, c.Mesh.Room = 8, 8, 1
	n := api.Net{Neurons: neurons(200), Inputs: 56}
	for i := range api.MaxSynapses {
		n.Synapses = append(n.Synapses, syn(i*7%256-56, i*11%200, 5, 1+i%16))
	}
	h := newHost(t, c)
	fails(t, h, api.ErrFull, "tables that are too small", func() api.Errno { return h.Start("a", n, 1) })
	c.Entries = 1024
	h = newHost(t, c)
	for i := range 21 {
		if e := h.Start(fmt.Sprint("a", i), n, 1); (e == api.OK) != (i < 16) {
			t.Fatalf("Start of the job %d: %d", i, e)
		}
	}
	rounds(t, h, 3)
	h.Fail(0)
	fails(t, h, api.ErrFull, "Restore", func() api.Errno { return h.Restore("a0") })
	l := slices.Repeat([]host.Input{in("a1", 0)}, 1<<16)
	fails(t, h, api.ErrHave, "many inputs", func() api.Errno { _, e := h.Round(l); return e })
}

// R3: a nil host, and one that no function made, is not valid.
func TestR3NoHost(t *testing.T) {
	made := started(t, row(3), clock(), "a")
	moved := *made
	for what, h := range map[string]*host.Host{"nil": nil, "new": new(host.Host), "assigned": &moved} {
		out, e := h.Round([]host.Input{in("z")})
		name, f := h.Fail(-1)
		x, i := h.Info("z")
		w, j := h.Work("z")
		energy, k := h.Energy(chip.Prices{Update: -1})
		if len(out) != 0 || name != "" || fmt.Sprint(x) != fmt.Sprint(host.Info{}) || w != (chip.Work{}) || energy != 0 {
			t.Errorf("%s: %v, %q, %v, %v, %d", what, out, name, x, w, energy)
		}
		l := []api.Errno{
			e, f, i, j, k, h.Start("", api.Net{}, 0), h.Stop("z"), h.Pause("z"), h.Resume("z"), h.Move("z", nil), h.Save("z"), h.Restore("z"),
			h.Start("b", clock(), 1), h.Stop("a"), h.Pause("a"), h.Resume("a"), h.Move("a", []int{1}), h.Save("a"), h.Restore("a"),
		}
		if slices.ContainsFunc(l, func(e api.Errno) bool { return e != api.ErrNil }) {
			t.Errorf("%s: the errors %v", what, l)
		}
		if h.Jobs() != nil || h.Free() != nil || h.Skew() != 0 || h.Copy() != nil {
			t.Errorf("%s: %v, %v, %d, %v", what, h.Jobs(), h.Free(), h.Skew(), h.Copy())
		}
	}
	info(t, made, "a", on(0, 0, 0))
	free(t, made, 1, 2)
}

// R3: a nil list is an empty one.
func TestR3Nil(t *testing.T) {
	one, other := newHost(t, row(3)), newHost(t, row(3))
	c := row(3)
	c.Dead = []int{}
	if h := newHost(t, c); look(h) != look(one) {
		t.Errorf("New: %s, want %s", look(h), look(one))
	}
	n := clock()
	good(t, "Start", one.Start("a", n, 1))
	n.Synapses = []api.Synapse{}
	good(t, "Start", other.Start("a", n, 1))
	for _, call := range []func(h *host.Host, ids []int, l []host.Input) api.Errno{
		func(h *host.Host, ids []int, l []host.Input) api.Errno { _, e := h.Round(l); return e },
		func(h *host.Host, ids []int, l []host.Input) api.Errno {
			_, e := h.Round(append(l, host.Input{Job: "a", Ids: ids}))
			return e
		},
		func(h *host.Host, ids []int, l []host.Input) api.Errno { return h.Move("a", ids) },
	} {
		e, f := call(one, nil, nil), call(other, []int{}, []host.Input{})
		if e != f || look(one) != look(other) {
			t.Errorf("%d and %d: %s, want %s", e, f, look(other), look(one))
		}
	}
}

// overwrite changes all elements of a list, also those behind its end.
func overwrite[T any](l []T, x T) {
	l = l[:cap(l)]
	for i := range l {
		l[i] = x
	}
}

// R4: a host shares no memory with an argument, and changes none.
func TestR4Arguments(t *testing.T) {
	dead := []int{2, 4}
	h := newHost(t, row(8, dead...))
	overwrite(dead, 5)
	free(t, h, 0, 1, 3, 5, 6, 7)
	n := chain()
	good(t, "Start", h.Start("a", n, 1))
	if fmt.Sprint(n) != fmt.Sprint(chain()) {
		t.Errorf("Start: %v", n)
	}
	overwrite(n.Neurons, api.Params{Bias: 9, Thresh: 1})
	overwrite(n.Synapses, syn(0, 0, -9, 1))
	ids := []int{0}
	l := []host.Input{in("a", ids...)}
	round(t, h, "a[]", l...)
	if !slices.Equal(ids, []int{0}) || l[0].Job != "a" {
		t.Errorf("Round: %v", l)
	}
	cores := []int{7, 3}
	good(t, "Move", h.Move("a", cores))
	if !slices.Equal(cores, []int{7, 3}) {
		t.Errorf("Move: %v", cores)
	}
	overwrite(cores, 0)
	info(t, h, "a", on(1, 1, 7, 3))
	free(t, h, 0, 1, 5, 6)
	round(t, h, "a[0]")
	h.Fail(3)
	good(t, "Restore", h.Restore("a")) // with the network as it was
	round(t, h, "a[]", in("a", 0))
	round(t, h, "a[0]")
	round(t, h, "a[]")
	round(t, h, "a[]")
	round(t, h, "a[1]")
}

// R4: a host shares no memory with a result.
func TestR4Results(t *testing.T) {
	h := newHost(t, row(8))
	good(t, "Start", h.Start("b", chain(), 1))
	good(t, "Start", h.Start("a", chain(), 2))
	round(t, h, "a[]b[]", in("a", 0))
	before := look(h)
	x, _ := h.Info("a")
	overwrite(x.Assign, 7)
	overwrite(h.Free(), 0)
	overwrite(h.Jobs(), "z")
	if look(h) != before {
		t.Errorf("changed: %s, want %s", look(h), before)
	}
	out, _ := h.Round(nil)
	other, _ := h.Round(nil)
	for _, x := range out {
		overwrite(x.Spikes, 1)
	}
	overwrite(out, host.Output{Job: "z"})
	if text(other) != "a[]b[]" {
		t.Errorf("changed: %s", text(other))
	}
	round(t, h, "a[]b[]")
	round(t, h, "a[1]b[]")
}
