package host_test

import (
	"slices"
	"testing"

	"ganglion/api"
	"ganglion/chip"
	"ganglion/host"
	"ganglion/net"
	"ganglion/place"
)

// alone is the quantised network of a job, simulated by itself, as it is now, and as it was saved.
type alone struct {
	now   *net.Sim
	saved *net.Sim
}

// world is a host, and what is known of its jobs without it.
type world struct {
	chip   place.Chip
	host   *host.Host
	jobs   map[string]*alone
	failed []bool
	work   map[string]chip.Work
	counts map[string]int
}

func newWorld(t *testing.T, c place.Chip) *world {
	w := &world{chip: c, host: newHost(t, c), jobs: map[string]*alone{}, failed: make([]bool, c.Mesh.Wide*c.Mesh.High), work: map[string]chip.Work{}, counts: map[string]int{}}
	for _, core := range c.Dead {
		w.failed[core] = true
	}
	return w
}

// start starts a job, if there is room for it.
func (w *world) start(t *testing.T, name string, n api.Net) {
	t.Helper()
	if w.jobs[name] != nil || w.host.Start(name, n, 1) != api.OK {
		return
	}
	q, e := place.Quantise(n, w.chip.Bits)
	good(t, "Quantise", e)
	s, e := net.New(q.Net)
	good(t, "net.New", e)
	w.jobs[name] = &alone{now: s, saved: s.Copy()}
	w.work[name] = chip.Work{}
}

// change does something to a job that does not change its spikes, or takes it back to where it was saved.
func (w *world) change(g *generator, name string) {
	j := w.jobs[name]
	if j == nil {
		return
	}
	x, _ := w.host.Info(name)
	did := ""
	switch g.below(8) {
	case 0:
		if w.host.Pause(name) == api.OK {
			did = "paused"
		}
	case 1, 2:
		w.host.Resume(name)
	case 3, 4:
		cores := append(w.host.Free(), x.Assign...)
		var l []int
		for range x.Assign {
			l = append(l, g.one(cores...))
		}
		if len(l) > 0 && w.host.Move(name, l) == api.OK {
			did = "moved"
		}
	case 5:
		if w.host.Save(name) == api.OK {
			j.saved = j.now.Copy()
			did = "saved"
		}
	case 6:
		if w.host.Restore(name) == api.OK {
			j.now = j.saved.Copy()
			did = "restored"
		}
	case 7:
		if g.below(6) == 0 && w.host.Stop(name) == api.OK {
			delete(w.jobs, name)
			delete(w.work, name)
		}
	}
	w.counts[did]++
}

// fail lets a core fail, now and then.
func (w *world) fail(g *generator) {
	core := g.below(len(w.failed))
	if g.below(20) == 0 {
		w.host.Fail(core)
		w.failed[core] = true
	}
}

// round does a round, and compares the spikes with those of the networks alone.
func (w *world) round(t *testing.T, g *generator) {
	t.Helper()
	ids := map[string][]int{}
	var l []host.Input
	for _, name := range w.host.Jobs() {
		x, _ := w.host.Info(name)
		if x.State == host.Running && g.below(3) > 0 {
			ids[name] = slices.Repeat([]int{0}, g.below(2))
			l = append(l, host.Input{Job: name, Ids: ids[name]})
		}
	}
	if len(l) > 0 && g.below(4) == 0 {
		if _, e := w.host.Round(append(l, l[0])); e != api.ErrHave {
			t.Fatalf("Round with a job twice: %d", e)
		}
	}
	out, e := w.host.Round(l)
	good(t, "Round", e)
	for _, x := range out {
		want, e := w.jobs[x.Job].now.Step(ids[x.Job])
		good(t, "Step", e)
		if !slices.Equal(x.Spikes, want) {
			t.Fatalf("%s: %v, want %v", x.Job, x.Spikes, want)
		}
		w.counts["spikes"] += len(want)
	}
}

// owners checks that each core is free, has failed, or is owned by one job.
func (w *world) owners(t *testing.T) {
	t.Helper()
	used := make([]int, len(w.failed))
	for core, x := range w.failed {
		if x {
			used[core]++
		}
	}
	for _, core := range w.host.Free() {
		used[core]++
	}
	for _, name := range w.host.Jobs() {
		x, _ := w.host.Info(name)
		if x.State == host.Lost != (len(x.Assign) == 0) {
			t.Fatalf("Info(%s): %v", name, x)
		}
		slices.Sort(x.Assign)
		for _, core := range slices.Compact(x.Assign) {
			used[core]++
		}
	}
	if slices.ContainsFunc(used, func(n int) bool { return n != 1 }) {
		t.Fatalf("the cores are used %v times", used)
	}
}

// more checks that no number of the work of a job has become less.
func (w *world) more(t *testing.T) {
	t.Helper()
	for name, a := range w.work {
		b, e := w.host.Work(name)
		good(t, "Work", e)
		if b.Ticks < a.Ticks || b.Updates < a.Updates || b.Spikes < a.Spikes || b.Packets < a.Packets || b.Hops < a.Hops ||
			b.Arrivals < a.Arrivals || b.Rows < a.Rows || b.Steps < a.Steps || b.Most < a.Most {
			t.Fatalf("Work(%s): %v behind %v", name, b, a)
		}
		w.work[name] = b
	}
}

// P13.7 to P13.9, G9: jobs that are paused, moved, saved, lost and restored have their own spikes, cores and work.
func TestP13_7Isolated(t *testing.T) {
	var g generator = 71
	counts := map[string]int{}
	for range 60 {
		c := g.chip()
		c.Mesh.Wide, c.Mesh.High, c.Synapses, c.Entries = g.from(3, 6), g.from(2, 4), 24, 32
		c.Dead = slices.DeleteFunc(c.Dead, func(core int) bool { return core >= c.Mesh.Wide*c.Mesh.High })
		w := newWorld(t, c)
		w.counts = counts
		for range 300 {
			if g.below(10) == 0 {
				n := g.network()
				n.Inputs = 1
				n.Synapses = append(n.Synapses, syn(-1, 0, 6, 1))
				n.Synapses = slices.DeleteFunc(n.Synapses, func(s api.Synapse) bool { return s.From < -1 })
				w.start(t, g.name(), n)
			}
			if g.below(20) == 0 {
				w.host = w.host.Copy()
			}
			w.fail(&g)
			w.change(&g, g.name())
			w.owners(t)
			w.round(t, &g)
			w.more(t)
		}
	}
	for _, what := range []string{"paused", "moved", "saved", "restored", "spikes"} {
		if counts[what] < 100 {
			t.Errorf("%s: %d times", what, counts[what])
		}
	}
}

// P13.7, G9: a job has the same spikes with other jobs beside it, also with others that are busy on all cores around it.
func TestP13_7Beside(t *testing.T) {
	busy := api.Net{Inputs: 1, Neurons: slices.Repeat([]api.Params{{Bias: 1, Thresh: 1}}, 8)}
	for i := range 8 {
		for k := range 8 {
			busy.Synapses = append(busy.Synapses, syn(i, k, 3, 1+k))
		}
	}
	c := row(6)
	c.Mesh.High, c.Synapses, c.Entries, c.Bits = 3, 64, 16, 8
	one, many := started(t, c, chain(), "e"), newHost(t, c)
	good(t, "Start", many.Start("a", busy, 3))
	good(t, "Start", many.Start("e", chain(), 1))
	good(t, "Start", many.Start("f", busy, 5))
	for now := range 60 {
		var l []host.Input
		if now%7 == 0 {
			l = []host.Input{in("e", 0)}
		}
		a, e := one.Round(l)
		b, f := many.Round(append(l, in("f", 0)))
		if e != api.OK || f != api.OK || len(b) != 3 || !slices.Equal(a[0].Spikes, b[1].Spikes) {
			t.Fatalf("the tick %d: %v, %d with others, %v, %d alone", now, b, f, a, e)
		}
	}
}

// P13.7, G9: a job goes on in the tick in which it was saved, also when this is done again and again.
func TestP13_7Again(t *testing.T) {
	n := chain()
	n.Synapses = append(n.Synapses, syn(1, 0, 6, 16))
	h := started(t, row(8), n, "a")
	round(t, h, "a[]", in("a", 0))
	rounds(t, h, 10)
	good(t, "Save", h.Save("a"))
	var want []string
	for again := range 5 {
		for k := range 40 {
			out, e := h.Round(nil)
			good(t, "Round", e)
			if again == 0 {
				want = append(want, text(out))
			} else if text(out) != want[k] {
				t.Fatalf("%d ticks behind Save, for the time %d: %s, want %s", k, again, text(out), want[k])
			}
		}
		x, _ := h.Info("a")
		h.Fail(x.Assign[again%2])
		good(t, "Restore", h.Restore("a"))
		info(t, h, "a", on(11, 11, places(h)...))
	}
	if !slices.Contains(want, "a[0]") || !slices.Contains(want, "a[1]") {
		t.Errorf("no spikes: %v", want)
	}
}

// places is where the job a is.
func places(h *host.Host) []int {
	x, _ := h.Info("a")
	return x.Assign
}

// P13.8, G9: no job can get a core of another one, or one that has failed, and a stopped one leaves its cores.
func TestP13_8Cores(t *testing.T) {
	h := started(t, row(7), chain(), "a", "b")
	h.Fail(5)
	for core := range 7 {
		e := h.Move("a", []int{core, core ^ 1})
		want := api.OK
		switch {
		case core/2 == 1:
			want = api.ErrBusy
		case core == 4:
			want = api.ErrDown // the core 5
		case core == 5:
			want = api.ErrDown
		case core == 6:
			want = api.ErrRange // there is no core 7
		}
		if e != want {
			t.Errorf("Move to the core %d: %d, want %d", core, e, want)
		}
	}
	good(t, "Move", h.Move("a", []int{4, 6}))
	free(t, h, 0, 1)
	good(t, "Start", h.Start("c", chain(), 1))
	fails(t, h, api.ErrFull, "Start", func() api.Errno { return h.Start("d", clock(), 1) })
	good(t, "Stop", h.Stop("a"))
	free(t, h, 4, 6)
}

// P13.9: the energy does not depend on the order in which jobs were started, if they have the same assignments.
func TestP13_9Order(t *testing.T) {
	where := map[string][]int{"a": {0, 7}, "b": {6, 1}, "c": {2, 5}}
	run := func(order ...string) int {
		h := newHost(t, row(8))
		for _, name := range order {
			good(t, "Start", h.Start(name, chain(), 1))
			good(t, "Move", h.Move(name, where[name]))
		}
		for now := range 40 {
			l := []host.Input{in("b", 0)}
			if now%5 == 0 {
				l = append(l, in("a", 0))
			}
			_, e := h.Round(l)
			good(t, "Round", e)
		}
		sum, e := h.Energy(prices)
		good(t, "Energy", e)
		parts := 0
		for _, name := range order {
			w, e := h.Work(name)
			good(t, "Work", e)
			x, e := chip.Energy(w, prices)
			good(t, "chip.Energy", e)
			parts += x
		}
		if sum != parts {
			t.Errorf("Energy: %d, want %d", sum, parts)
		}
		return sum
	}
	want := run("a", "b", "c")
	for _, order := range [][]string{{"b", "a", "c"}, {"a", "c", "b"}, {"c", "b", "a"}} {
		if x := run(order...); x != want || x == 0 {
			t.Errorf("%v: %d, want %d", order, x, want)
		}
	}
}

// P13.9: the sum of the energies is right for great numbers too.
func TestP13_9Great(t *testing.T) {
	h := started(t, row(8), clock(), "a", "b", "c")
	rounds(t, h, 3000)
	x, e := h.Energy(chip.Prices{Update: 1000000, Spike: 1000000})
	if e != api.OK || x != 3*(3000+1000)*1000000 {
		t.Errorf("Energy: %d, %d", x, e)
	}
}
