package host

import (
	"iter"
	"maps"
	"slices"

	"ganglion/api"
	"ganglion/chip"
	"ganglion/net"
)

// job is a network that runs on cores of its own.
type job struct {
	net     api.Net
	period  int
	clock   int
	state   int
	machine *chip.Machine // nil if the job is lost
	cores   []int         // of its neurons
	exact   bool
	backup  backup
	work    chip.Work // of all its machines
}

// backup is a job as it was saved.
type backup struct {
	image net.Image
	clock int
}

// newJob returns a job that was not placed yet.
func newJob(n api.Net, period int) *job {
	n.Neurons = slices.Clone(n.Neurons)
	n.Synapses = slices.Clone(n.Synapses)
	return &job{net: n, period: period, state: Running}
}

// copy returns an independent job. What is never changed, but only replaced, can be shared.
func (j *job) copy() *job {
	c := *j
	c.machine = j.machine.Copy()
	return &c
}

// save makes a backup.
func (j *job) save() {
	// There is no error: a job that is saved has a machine.
	image, _ := j.machine.Image()
	j.backup = backup{image: image, clock: j.clock}
}

// leave takes the job from its cores.
func (j *job) leave() { j.machine, j.cores, j.exact = nil, nil, false }

// lose leaves nothing of the job but its backup, and the work that was done.
func (j *job) lose() {
	j.leave()
	j.state, j.clock = Lost, j.backup.clock
}

// info returns how the job is.
func (j *job) info() Info {
	tick := j.backup.image.Tick
	if j.state != Lost {
		tick = j.machine.Now()
	}
	return Info{State: j.state, Tick: tick, Clock: j.clock, Assign: slices.Clone(j.cores), Exact: j.exact}
}

// names returns the names of all jobs, ascending.
func (h *Host) names() []string { return slices.Sorted(maps.Keys(h.jobs)) }

// all yields the jobs, in the order of their names.
func (h *Host) all() iter.Seq2[string, *job] {
	return func(yield func(string, *job) bool) {
		for _, name := range h.names() {
			if !yield(name, h.jobs[name]) {
				return
			}
		}
	}
}

// running yields the jobs that are running, in the order of their names.
func (h *Host) running() iter.Seq2[string, *job] {
	return func(yield func(string, *job) bool) {
		for name, j := range h.all() {
			if j.state == Running && !yield(name, j) {
				return
			}
		}
	}
}

// find returns the job with a name.
func (h *Host) find(name string) (*job, api.Errno) {
	if !h.made() {
		return nil, api.ErrNil
	}
	j, ok := h.jobs[name]
	if !ok {
		return nil, api.ErrNone
	}
	return j, api.OK
}

// isName says whether a string is a name.
func isName(s string) bool {
	if !within(1, api.MaxName, len(s)) || !within('a', 'z', int(s[0])) {
		return false
	}
	for _, c := range []byte(s) {
		if !within('a', 'z', int(c)) && !within('0', '9', int(c)) && c != '_' {
			return false
		}
	}
	return true
}

// within says whether x is from least to most.
func within(least, most, x int) bool { return least <= x && x <= most }
