package host

import (
	"slices"

	"ganglion/api"
	"ganglion/place"
)

// action is what is done to a job, and in which states.
type action struct {
	in func(state int) bool
	do func(j *job) api.Errno
}

// states returns a function that says whether a state is one of these.
func states(l ...int) func(state int) bool {
	return func(state int) bool { return slices.Contains(l, state) }
}

// act does something to the job with a name. With an error the job is as it was before.
func (h *Host) act(name string, a action) (e api.Errno) {
	j, e := h.find(name)
	if e != api.OK {
		return e
	}
	if !a.in(j.state) {
		return api.ErrState
	}
	before := *j
	defer func() {
		if e != api.OK {
			*j = before
		}
	}()
	return a.do(j)
}

// Start starts a job.
func (h *Host) Start(name string, n api.Net, period int) api.Errno {
	if !h.made() {
		return api.ErrNil
	}
	if !isName(name) {
		return api.ErrName
	}
	if _, have := h.jobs[name]; have {
		return api.ErrHave
	}
	if len(h.jobs) == MaxJobs {
		return api.ErrMany
	}
	if !within(1, MaxPeriod, period) {
		return api.ErrRange
	}
	if _, e := place.Low(n, h.chip); e != api.OK {
		return e
	}
	j := newJob(n, period)
	if !h.choose(j) {
		return api.ErrFull
	}
	j.save()
	h.jobs[name] = j
	return api.OK
}

// Stop removes a job.
func (h *Host) Stop(name string) api.Errno {
	return h.act(name, action{in: states(Running, Paused, Lost), do: func(*job) api.Errno {
		delete(h.jobs, name)
		return api.OK
	}})
}

// Pause pauses a job.
func (h *Host) Pause(name string) api.Errno {
	return h.act(name, action{in: states(Running), do: func(j *job) api.Errno {
		j.state = Paused
		return api.OK
	}})
}

// Resume lets a job go on.
func (h *Host) Resume(name string) api.Errno {
	return h.act(name, action{in: states(Paused), do: func(j *job) api.Errno {
		j.state = Running
		return api.OK
	}})
}

// Move moves a job to other cores.
func (h *Host) Move(name string, cores []int) api.Errno {
	return h.act(name, action{in: states(Running, Paused), do: func(j *job) api.Errno { return h.move(j, cores) }})
}

// Save saves a job.
func (h *Host) Save(name string) api.Errno {
	return h.act(name, action{in: states(Running, Paused), do: func(j *job) api.Errno {
		j.save()
		return api.OK
	}})
}

// Restore restores a job.
func (h *Host) Restore(name string) api.Errno {
	return h.act(name, action{in: states(Lost), do: func(j *job) api.Errno {
		if !h.choose(j) {
			return api.ErrFull
		}
		// Since it was lost, its clock is that of the backup.
		j.state = Running
		return j.machine.Load(j.backup.image)
	}})
}

// Fail lets a core fail.
func (h *Host) Fail(core int) (string, api.Errno) {
	if !h.made() {
		return "", api.ErrNil
	}
	if !h.exists(core) {
		return "", api.ErrRange
	}
	if h.failed[core] {
		return "", api.ErrDown
	}
	h.failed[core] = true
	for name, j := range h.all() {
		if slices.Contains(j.cores, core) {
			j.lose()
			return name, api.OK
		}
	}
	return "", api.OK
}
