package host_test

import (
	"fmt"
	"math"
	"slices"
	"strings"
	"testing"

	"ganglion/api"
	"ganglion/chip"
	"ganglion/host"
	"ganglion/mesh"
	"ganglion/net"
	"ganglion/place"
)

// generator is the generator of the document.
type generator uint64

func (g *generator) below(n int) int {
	*g = 6364136223846793005**g + 1442695040888963407
	return int(*g>>33) % n
}

// from returns a number from least to most.
func (g *generator) from(least, most int) int { return least + g.below(most-least+1) }

// one returns one of these numbers.
func (g *generator) one(l ...int) int { return l[g.below(len(l))] }

// edges are numbers at and around all bounds, and the greatest ones of all.
var edges = []int{0, 1, -1, 2, 3, 8, 9, 31, 32, 33, 63, 64, 65, 256, 9999, 10000, 10001, 999999, 1000000, 1000001, math.MaxInt, math.MinInt, math.MaxInt - 1, math.MinInt + 1}

// network draws a network of up to 5 neurons, many of which have spikes often.
func (g *generator) network() api.Net {
	n := api.Net{Inputs: g.below(3)}
	for range g.from(1, 5) {
		p := api.Params{LeakKind: g.below(3), Bias: g.below(3), Thresh: g.from(1, 6), Floor: -g.below(9), Rest: g.below(3)}
		if p.LeakKind != api.LeakNone {
			p.Leak = g.from(1, 3)
		}
		n.Neurons = append(n.Neurons, p)
	}
	for range g.below(10) {
		n.Synapses = append(n.Synapses, syn(g.from(-n.Inputs, len(n.Neurons)-1), g.below(len(n.Neurons)), g.from(-9, 9), g.from(1, 16)))
	}
	return n
}

// chip draws a chip that has room for some jobs.
func (g *generator) chip() place.Chip {
	c := place.Chip{
		Mesh:    mesh.Spec{Wide: g.from(1, 5), High: g.from(1, 3), Room: g.from(1, 3)},
		Neurons: g.from(1, 4), Synapses: g.from(2, 12), Entries: g.from(1, 8), Bits: g.from(2, 6),
	}
	for core := range c.Mesh.Wide * c.Mesh.High {
		if g.below(9) == 0 {
			c.Dead = append(c.Dead, core)
		}
	}
	return c
}

// model is a host as the chapter defines it: it knows who owns each core.
type model struct {
	chip   place.Chip
	failed []bool
	owner  []*modelJob
	jobs   []*modelJob // in the order of their names
}

// modelJob has all of its machines; if it is not lost, the last one is that on which it runs.
type modelJob struct {
	name     string
	net      api.Net
	period   int
	clock    int
	state    int
	machines []*chip.Machine
	assign   []int
	image    net.Image
	saved    int
}

func newModel(c place.Chip) *model {
	size := c.Mesh.Wide * c.Mesh.High
	m := &model{chip: c, failed: make([]bool, size), owner: make([]*modelJob, size)}
	for _, core := range c.Dead {
		m.failed[core] = true
	}
	return m
}

func (j *modelJob) machine() *chip.Machine { return j.machines[len(j.machines)-1] }

func (m *model) find(name string) *modelJob {
	for _, j := range m.jobs {
		if j.name == name {
			return j
		}
	}
	return nil
}

func (m *model) free() []int {
	var l []int
	for core := range m.owner {
		if m.owner[core] == nil && !m.failed[core] {
			l = append(l, core)
		}
	}
	return l
}

// alone is the chip in which all cores but those of a list are dead.
func (m *model) alone(list []int) place.Chip {
	c := m.chip
	c.Dead = nil
	for core := range m.owner {
		if !slices.Contains(list, core) {
			c.Dead = append(c.Dead, core)
		}
	}
	return c
}

// place places a job on the cores of a list by an assignment that can be mapped.
func (m *model) place(j *modelJob, list, assign []int) {
	machine, e := chip.New(j.net, m.alone(list), assign)
	if e != api.OK {
		panic(fmt.Sprint("chip.New: ", e))
	}
	j.machines = append(j.machines, machine)
	j.assign = assign
	for core := range m.owner {
		if m.owner[core] == j {
			m.owner[core] = nil
		}
	}
	for _, core := range assign {
		m.owner[core] = j
	}
}

// choose places a job on the free cores that are chosen for it, if there is room.
func (m *model) choose(j *modelJob) bool {
	for k := 1; k <= len(m.free()); k++ {
		list := m.free()[:k]
		assign, e := place.Place(j.net, m.alone(list))
		if e != api.OK {
			continue
		}
		if _, e := place.Map(j.net, m.alone(list), assign); e == api.OK {
			m.place(j, list, assign)
			return true
		}
	}
	return false
}

func (m *model) start(name string, n api.Net, period int) api.Errno {
	letters := strings.Trim(name, "abcdefghijklmnopqrstuvwxyz0123456789_")
	if letters != "" || len(name) < 1 || len(name) > 12 || strings.Contains("0123456789_", name[:1]) {
		return api.ErrName
	}
	if m.find(name) != nil {
		return api.ErrHave
	}
	if len(m.jobs) == 32 {
		return api.ErrMany
	}
	if period < 1 || period > 1000000 {
		return api.ErrRange
	}
	if _, e := place.Low(n, m.chip); e != api.OK {
		return e
	}
	j := &modelJob{name: name, net: n, period: period, state: 1}
	if !m.choose(j) {
		return api.ErrFull
	}
	j.image, _ = j.machine().Image()
	m.jobs = append(m.jobs, j)
	slices.SortFunc(m.jobs, func(a, b *modelJob) int { return strings.Compare(a.name, b.name) })
	return api.OK
}

func (m *model) stop(name string) api.Errno {
	j := m.find(name)
	if j == nil {
		return api.ErrNone
	}
	m.jobs = slices.DeleteFunc(m.jobs, func(x *modelJob) bool { return x == j })
	for core := range m.owner {
		if m.owner[core] == j {
			m.owner[core] = nil
		}
	}
	return api.OK
}

// change gives a job in one state another one.
func (m *model) change(name string, from, to int) api.Errno {
	j := m.find(name)
	if j == nil {
		return api.ErrNone
	}
	if j.state != from {
		return api.ErrState
	}
	j.state = to
	return api.OK
}

// round lets copies of the machines do the round, so that with an error nothing has changed.
func (m *model) round(l []host.Input) (string, api.Errno) {
	copies, spikes := map[*modelJob]*chip.Machine{}, map[*modelJob][]int{}
	for _, x := range l {
		j := m.find(x.Job)
		if j == nil {
			return "", api.ErrNone
		}
		if j.state != 1 {
			return "", api.ErrState
		}
		if copies[j] != nil {
			return "", api.ErrHave
		}
		copies[j] = j.machine().Copy()
		out, e := copies[j].Step(x.Ids)
		if e != api.OK {
			return "", e
		}
		spikes[j] = out
	}
	for _, j := range m.jobs {
		if j.state == 1 && copies[j] == nil && j.machine().Now() == 10000 {
			return "", api.ErrFull
		}
	}
	var out []host.Output
	for _, j := range m.jobs {
		if j.state != 1 {
			continue
		}
		if copies[j] != nil {
			j.machines[len(j.machines)-1] = copies[j]
		} else {
			spikes[j], _ = j.machine().Step(nil)
		}
		j.clock += j.period
		out = append(out, host.Output{Job: j.name, Spikes: spikes[j]})
	}
	return text(out), api.OK
}

func (m *model) move(name string, cores []int) api.Errno {
	j := m.find(name)
	if j == nil {
		return api.ErrNone
	}
	if j.state == 3 {
		return api.ErrState
	}
	if len(cores) != len(j.net.Neurons) {
		return api.ErrShape
	}
	for _, core := range cores {
		if core < 0 || core >= len(m.owner) {
			return api.ErrRange
		}
		if m.failed[core] {
			return api.ErrDown
		}
		if m.owner[core] != nil && m.owner[core] != j {
			return api.ErrBusy
		}
	}
	if _, e := place.Map(j.net, m.alone(cores), cores); e != api.OK {
		return e
	}
	image, _ := j.machine().Image()
	m.place(j, cores, cores)
	return j.machine().Load(image)
}

func (m *model) save(name string) api.Errno {
	j := m.find(name)
	if j == nil {
		return api.ErrNone
	}
	if j.state == 3 {
		return api.ErrState
	}
	j.image, _ = j.machine().Image()
	j.saved = j.clock
	return api.OK
}

func (m *model) fail(core int) (string, api.Errno) {
	if core < 0 || core >= len(m.owner) {
		return "", api.ErrRange
	}
	if m.failed[core] {
		return "", api.ErrDown
	}
	m.failed[core] = true
	j := m.owner[core]
	if j == nil {
		return "", api.OK
	}
	j.state = 3
	for core := range m.owner {
		if m.owner[core] == j {
			m.owner[core] = nil
		}
	}
	return j.name, api.OK
}

func (m *model) restore(name string) api.Errno {
	j := m.find(name)
	if j == nil {
		return api.ErrNone
	}
	if j.state != 3 {
		return api.ErrState
	}
	if !m.choose(j) {
		return api.ErrFull
	}
	j.clock, j.state = j.saved, 1
	return j.machine().Load(j.image)
}

// work adds the work of all machines.
func (j *modelJob) work() chip.Work {
	var w chip.Work
	for _, machine := range j.machines {
		x := machine.Work()
		w = chip.Work{
			Ticks: w.Ticks + x.Ticks, Updates: w.Updates + x.Updates, Spikes: w.Spikes + x.Spikes, Packets: w.Packets + x.Packets,
			Hops: w.Hops + x.Hops, Arrivals: w.Arrivals + x.Arrivals, Rows: w.Rows + x.Rows, Steps: w.Steps + x.Steps, Most: max(w.Most, x.Most),
		}
	}
	return w
}

func (j *modelJob) info() host.Info {
	if j.state == 3 {
		return host.Info{State: 3, Tick: j.image.Tick, Clock: j.saved}
	}
	mapping, _ := j.machine().Mapping()
	return host.Info{State: j.state, Tick: j.machine().Now(), Clock: j.clock, Assign: j.assign, Exact: mapping.Quant.Exact}
}

// look is what look says of a host.
func (m *model) look() string {
	var s strings.Builder
	var clocks []int
	energy := 0
	for _, j := range m.jobs {
		if j.state == 1 {
			clocks = append(clocks, j.clock)
		}
		x, _ := chip.Energy(j.work(), prices)
		energy += x
	}
	skew := 0
	if len(clocks) > 1 {
		skew = slices.Max(clocks) - slices.Min(clocks)
	}
	fmt.Fprintln(&s, "free", m.free(), "skew", skew, "energy", energy, api.OK)
	for _, j := range m.jobs {
		fmt.Fprintln(&s, j.name, j.info(), api.OK, j.work(), api.OK)
	}
	return s.String()
}

// names are those that the calls of a test use; some are no names.
var names = []string{"a", "b", "c_1", "dddddddddddd", "E", ""}

// name draws one that is a name mostly.
func (g *generator) name() string { return names[min(g.below(16)/3, 5)] }

// inputs draws inputs for some jobs of a model, a few of them with errors.
func (g *generator) inputs(m *model) []host.Input {
	var l []host.Input
	for _, j := range m.jobs {
		if j.state != 1 && g.below(20) > 0 || g.below(3) == 0 {
			continue
		}
		x := host.Input{Job: j.name}
		for i := range j.net.Inputs {
			if g.below(2) == 0 {
				x.Ids = append(x.Ids, i)
			}
		}
		if g.below(20) == 0 {
			x.Ids = append(x.Ids, g.from(-1, 3))
		}
		l = append(l, x)
	}
	if len(l) > 0 && g.below(20) == 0 {
		l = append(l, l[g.below(len(l))])
	}
	if g.below(40) == 0 {
		l = append(l, host.Input{Job: g.name()})
	}
	for i := range l {
		k := g.from(i, len(l)-1)
		l[i], l[k] = l[k], l[i]
	}
	return l
}

// cores draws cores for a job of a model, mostly those that are its own, or free.
func (g *generator) cores(m *model, name string) []int {
	j := m.find(name)
	if j == nil {
		return nil
	}
	var own, l []int
	for core, x := range m.owner {
		if x == j || x == nil && !m.failed[core] {
			own = append(own, core)
		}
	}
	for range j.net.Neurons {
		if len(own) == 0 || g.below(15) == 0 {
			l = append(l, g.from(-1, len(m.owner)))
		} else {
			l = append(l, g.one(own...))
		}
	}
	if g.below(30) == 0 {
		l = append(l, 0)
	}
	return l
}

// call makes the same call of a host and of a model, and returns what it was, and what both returned.
func (g *generator) call(h *host.Host, m *model) (what, got, want string, e api.Errno) {
	name := g.name()
	var f api.Errno
	switch g.below(20) {
	case 0, 1:
		n, period := g.network(), g.from(1, 9)
		if g.below(8) == 0 {
			period = g.one(edges...)
		}
		if g.below(30) == 0 {
			n.Neurons = n.Neurons[:0]
		}
		what, e, f = "Start", h.Start(name, n, period), m.start(name, n, period)
	case 2:
		if g.below(3) == 0 {
			what, e, f = "Stop", h.Stop(name), m.stop(name)
		}
	case 3:
		what, e, f = "Pause", h.Pause(name), m.change(name, 1, 2)
	case 4:
		what, e, f = "Resume", h.Resume(name), m.change(name, 2, 1)
	case 5, 6, 7:
		cores := g.cores(m, name)
		what, e, f = "Move", h.Move(name, cores), m.move(name, cores)
	case 8:
		what, e, f = "Save", h.Save(name), m.save(name)
	case 9:
		if g.below(2) == 0 {
			core := g.from(-1, len(m.owner))
			what = "Fail"
			got, e = h.Fail(core)
			want, f = m.fail(core)
		}
	case 10:
		what, e, f = "Restore", h.Restore(name), m.restore(name)
	default:
		what = "Round"
		l := g.inputs(m)
		out, x := h.Round(l)
		got, e = text(out), x
		want, f = m.round(l)
	}
	return what, fmt.Sprint(got, e), fmt.Sprint(want, f), e
}

// P13.1 to P13.6: calls of all sorts do what the chapter says, word by word.
func TestP13_2Model(t *testing.T) {
	var g generator = 61
	seen := map[string]int{}
	for i := range 500 {
		c := g.chip()
		h, m := newHost(t, c), newModel(c)
		var past *host.Host
		shown := ""
		for k := range 150 {
			if g.below(30) == 0 {
				// the copy goes on, and what it was copied from stays as it is
				past, shown = h, look(h)
				h = h.Copy()
			}
			what, got, want, e := g.call(h, m)
			if got != want {
				t.Fatalf("the chip %d, the call %d, %s: %s, want %s", i, k, what, got, want)
			}
			if look(h) != m.look() {
				t.Fatalf("the chip %d, the call %d, %s:\n%swant\n%s", i, k, what, look(h), m.look())
			}
			seen[fmt.Sprint(what, " ", e)]++
		}
		if past != nil && look(past) != shown {
			t.Fatalf("the chip %d: %s, want %s", i, look(past), shown)
		}
	}
	for what, l := range map[string][]api.Errno{
		"Start":   {api.OK, api.ErrName, api.ErrHave, api.ErrRange, api.ErrArg, api.ErrFull},
		"Stop":    {api.OK, api.ErrNone},
		"Pause":   {api.OK, api.ErrNone, api.ErrState},
		"Resume":  {api.OK, api.ErrNone, api.ErrState},
		"Move":    {api.OK, api.ErrNone, api.ErrState, api.ErrShape, api.ErrRange, api.ErrDown, api.ErrBusy, api.ErrFull},
		"Save":    {api.OK, api.ErrNone, api.ErrState},
		"Fail":    {api.OK, api.ErrRange, api.ErrDown},
		"Restore": {api.OK, api.ErrNone, api.ErrState, api.ErrFull},
		"Round":   {api.OK, api.ErrNone, api.ErrState, api.ErrHave, api.ErrRange, api.ErrArg},
	} {
		for _, e := range l {
			if seen[fmt.Sprint(what, " ", e)] < 10 {
				t.Errorf("%s with the error %d: %d times", what, e, seen[fmt.Sprint(what, " ", e)])
			}
		}
	}
}
