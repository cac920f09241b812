package host

import (
	"ganglion/api"
	"ganglion/chip"
	"ganglion/place"
)

// maxCores is how many cores a chip can have.
const maxCores = 64

// set is a set of cores.
type set [maxCores]bool

// setOf returns the set of these cores.
func setOf(cores []int) set {
	var s set
	s.add(cores)
	return s
}

// add puts cores into the set.
func (s *set) add(cores []int) {
	for _, core := range cores {
		s[core] = true
	}
}

// size returns how many cores the chip has.
func (h *Host) size() int { return h.chip.Mesh.Wide * h.chip.Mesh.High }

// exists says whether the chip has this core.
func (h *Host) exists(core int) bool { return within(0, h.size()-1, core) }

// cores returns the cores of the chip that are right, ascending.
func (h *Host) cores(right func(core int) bool) []int {
	var l []int
	for core := range h.size() {
		if right(core) {
			l = append(l, core)
		}
	}
	return l
}

// owned returns the cores that jobs own.
func (h *Host) owned() set {
	var s set
	for _, j := range h.all() {
		s.add(j.cores)
	}
	return s
}

// free returns the cores that no job owns and that have not failed, ascending.
func (h *Host) free() []int {
	owned := h.owned()
	return h.cores(func(core int) bool { return !owned[core] && !h.failed[core] })
}

// only returns the chip in which all cores are dead but these.
func (h *Host) only(cores []int) place.Chip {
	living := setOf(cores)
	c := h.chip
	c.Dead = h.cores(func(core int) bool { return !living[core] })
	return c
}

// choose places a job on the first of the free cores, on as few as it fits, and says whether there is room for it.
func (h *Host) choose(j *job) bool {
	free := h.free()
	for k := range free {
		on := h.only(free[:k+1])
		if cores, e := place.Place(j.net, on); e == api.OK && j.put(on, cores) == api.OK {
			return true
		}
	}
	return false
}

// put places the job on a chip by an assignment, with a machine at its beginning.
func (j *job) put(c place.Chip, cores []int) api.Errno {
	// New returns just the errors of place.Map.
	m, e := chip.New(j.net, c, cores)
	if e != api.OK {
		return e
	}
	mapping, _ := m.Mapping()
	j.machine, j.cores, j.exact = m, mapping.Cores, mapping.Quant.Exact
	return api.OK
}

// move places a job on other cores, where it goes on.
func (h *Host) move(j *job, cores []int) api.Errno {
	if len(cores) != len(j.net.Neurons) {
		return api.ErrShape
	}
	image, _ := j.machine.Image()
	// Without cores of its own, so that those that are owned are owned by other jobs.
	j.leave()
	owned := h.owned()
	for _, core := range cores {
		switch {
		case !h.exists(core):
			return api.ErrRange
		case h.failed[core]:
			return api.ErrDown
		case owned[core]:
			return api.ErrBusy
		}
	}
	if e := j.put(h.only(cores), cores); e != api.OK {
		return e
	}
	return j.machine.Load(image)
}
