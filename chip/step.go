package chip

import (
	"ganglion/api"
	"ganglion/mesh"
)

// Step does a tick.
func (m *Machine) Step(inputs []int) ([]int, api.Errno) {
	if !m.made() {
		return nil, api.ErrNil
	}
	if m.now == api.MaxTicks {
		return nil, api.ErrLong
	}
	for i, x := range inputs {
		if !among(x, 0, m.mapping.Quant.Net.Inputs-1) {
			return nil, api.ErrRange
		}
		if i > 0 && x <= inputs[i-1] {
			return nil, api.ErrArg
		}
	}
	return m.tick(inputs), api.OK
}

// among reports whether x is from least to most.
func among(x, least, most int) bool { return least <= x && x <= most }

// tick is Step with inputs that are known to be valid.
func (m *Machine) tick(inputs []int) []int {
	spikes := m.update(m.now)
	m.work.Ticks++
	m.work.Updates += len(m.mapping.Cores)
	m.work.Spikes += len(spikes)
	steps := 0
	for packets := range m.packets(m.senders(spikes, inputs)) {
		steps += m.carry(packets)
	}
	m.work.Steps += steps
	m.work.Most = max(m.work.Most, steps)
	m.now++
	return spikes
}

// carry sends the packets of a wave, and returns how many ticks of the mesh it takes until the last copy has arrived.
func (m *Machine) carry(packets []mesh.Packet) int {
	// There is no error, and no copies are left behind as many steps as all waves together need at most.
	report, _ := mesh.Run(m.mesh, m.mapping.Tables, packets, m.mapping.Steps)
	m.work.Packets += len(packets)
	for _, p := range packets {
		m.work.Hops += m.links[p.Key]
	}
	m.work.Arrivals += len(report.Arrivals)
	steps := 0
	for _, a := range report.Arrivals {
		m.work.Rows += m.cores[a.Core].receive(packets[a.Packet].Key, m.now)
		steps = max(steps, a.Tick+1)
	}
	return steps
}
