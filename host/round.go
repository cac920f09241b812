package host

import (
	"ganglion/api"
	"ganglion/chip"
)

// Round does a round.
func (h *Host) Round(l []Input) (out []Output, e api.Errno) {
	if !h.made() {
		return nil, api.ErrNil
	}
	r := round{spikes: map[string][]int{}}
	// Jobs have done their ticks already when a later input has an error.
	defer func() {
		if e != api.OK {
			r.undo()
		}
	}()
	for _, x := range l {
		if e := h.act(x.Job, r.turn(x)); e != api.OK {
			return nil, e
		}
	}
	for name := range h.running() {
		if !r.did(name) && h.act(name, r.turn(Input{Job: name})) != api.OK {
			return nil, api.ErrFull
		}
	}
	for name := range h.running() {
		out = append(out, Output{Job: name, Spikes: r.spikes[name]})
	}
	return out, api.OK
}

// round is a round that is being done.
type round struct {
	spikes map[string][]int // of the jobs that have done their ticks
	backs  []func()         // that undo these ticks
}

// did says whether a job has done its tick.
func (r *round) did(name string) bool {
	_, ok := r.spikes[name]
	return ok
}

// turn is the tick of a job, with its events.
func (r *round) turn(x Input) action {
	return action{in: states(Running), do: func(j *job) api.Errno {
		if r.did(x.Job) {
			return api.ErrHave
		}
		spikes, back, e := j.tick(x.Ids)
		if e != api.OK {
			return e
		}
		r.spikes[x.Job] = spikes
		r.backs = append(r.backs, back)
		return api.OK
	}}
}

// undo undoes all ticks.
func (r *round) undo() {
	for _, back := range r.backs {
		back()
	}
}

// tick lets the job do a tick, and returns its spikes, and a function that undoes it.
func (j *job) tick(ids []int) (spikes []int, back func(), e api.Errno) {
	before := *j
	image, _ := j.machine.Image()
	work := j.machine.Work()
	spikes, e = j.machine.Step(ids)
	if e != api.OK {
		return nil, nil, e
	}
	j.clock += j.period
	j.count(work, j.machine.Work())
	return spikes, func() {
		*j = before
		// There is no error: the machine had this state.
		j.machine.Load(image)
	}, api.OK
}

// count adds the work of a single tick: what its machine had done before it, and behind it. The job counts for itself,
// as the work of a machine remains when a tick is undone, and is gone when the machine is replaced.
func (j *job) count(before, after chip.Work) {
	w := &j.work
	w.Ticks += after.Ticks - before.Ticks
	w.Updates += after.Updates - before.Updates
	w.Spikes += after.Spikes - before.Spikes
	w.Packets += after.Packets - before.Packets
	w.Hops += after.Hops - before.Hops
	w.Arrivals += after.Arrivals - before.Arrivals
	w.Rows += after.Rows - before.Rows
	steps := after.Steps - before.Steps
	w.Steps += steps
	w.Most = max(w.Most, steps)
}
