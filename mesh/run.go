package mesh

import (
	"iter"

	"ganglion/api"
)

// Run carries packets.
func Run(s Spec, tables [][]Entry, l []Packet, ticks int) (Report, api.Errno) {
	if e := checkRun(s, tables, l, ticks); e != api.OK {
		return Report{}, e
	}
	t := newTraffic(s, tables, l)
	for now := 0; now < ticks && (now <= t.last || t.left() > 0); now++ {
		t.tick(now)
	}
	t.report.Rest = t.left()
	return t.report, api.OK
}

// checkRun checks the arguments of Run.
func checkRun(s Spec, tables [][]Entry, l []Packet, ticks int) api.Errno {
	if e := CheckTables(s, tables); e != api.OK {
		return e
	}
	if len(l) > MaxPackets {
		return api.ErrMany
	}
	for _, p := range l {
		if e := checkPacket(s, p); e != api.OK {
			return e
		}
	}
	if !among(ticks, 0, api.MaxTicks) {
		return api.ErrRange
	}
	return api.OK
}

// checkPacket checks a packet on a valid mesh.
func checkPacket(s Spec, p Packet) api.Errno {
	if !among(p.Tick, 0, api.MaxTicks) {
		return api.ErrRange
	}
	if !exists(s, p.Source) {
		return api.ErrNone
	}
	if !among(p.Key, 0, MaxKey) {
		return api.ErrRange
	}
	if !among(p.Class, 0, 1) {
		return api.ErrArg
	}
	return api.OK
}

// port is where copies wait: at an output of a router, those of a class.
type port struct{ router, out, class int }

// start is when and where packets are sent.
type start struct{ tick, router int }

// station is what a router has between two ticks. Packets are known by their numbers.
type station struct {
	came [links]int // over the link that leads back through each output, or none
	held int        // how many copies are in its queues
}

// none stands for no packet.
const none = -1

// nothing is what came to a router if nothing did.
var nothing = [links]int{none, none, none, none}

// traffic is what is under way in a run.
type traffic struct {
	mesh     Spec
	tables   [][]Entry
	packets  []Packet
	sent     map[start][]int
	last     int // in this tick the last packet is sent
	queues   map[port]*queue[int]
	stations []station
	report   Report
}

// newTraffic returns the traffic before the tick 0, for arguments that are valid.
func newTraffic(s Spec, tables [][]Entry, l []Packet) *traffic {
	t := &traffic{
		mesh:     s,
		tables:   tables,
		packets:  l,
		sent:     map[start][]int{},
		last:     none,
		queues:   map[port]*queue[int]{},
		stations: make([]station, routers(s)),
		report:   Report{Most: make([][2]int, routers(s))},
	}
	for i, p := range l {
		at := start{p.Tick, p.Source}
		t.sent[at] = append(t.sent[at], i)
		t.last = max(t.last, p.Tick)
	}
	for i := range t.stations {
		t.stations[i].came = nothing
	}
	return t
}

// left returns how many copies are in queues, or came over a link and did not enter yet.
func (t *traffic) left() int {
	n := 0
	for _, r := range t.stations {
		n += r.held
		for _, packet := range r.came {
			if packet != none {
				n++
			}
		}
	}
	return n
}

// tick does a tick.
func (t *traffic) tick(now int) {
	for i := range t.stations {
		for packet := range t.entering(i, now) {
			t.enter(packet, i, now)
		}
		t.stations[i].came = nothing
	}
	for i, r := range t.stations {
		if r.held > 0 {
			t.send(i, now)
		}
	}
}

// entering yields the packets that enter a router in this tick, in their order.
func (t *traffic) entering(router, now int) iter.Seq[int] {
	return func(yield func(int) bool) {
		for _, packet := range t.stations[router].came {
			if packet != none && !yield(packet) {
				return
			}
		}
		for _, packet := range t.sent[start{now, router}] {
			if !yield(packet) {
				return
			}
		}
	}
}

// enter puts copies of a packet that enters a router into its queues, or drops it there.
func (t *traffic) enter(packet, router, now int) {
	p := t.packets[packet]
	outs, found := Find(t.tables[router], p.Key)
	if !found {
		t.drop(Drop{Packet: packet, Router: router, Tick: now})
		return
	}
	for _, out := range outputs {
		if outs&out != 0 && !t.put(packet, port{router, out, p.Class}) {
			t.drop(Drop{Packet: packet, Router: router, Out: out, Tick: now})
		}
	}
}

func (t *traffic) drop(x Drop) { t.report.Drops = append(t.report.Drops, x) }

// put puts a copy into a queue, if the router has the output, and the queue a free place. No queue is ever longer
// between the two steps of a tick than when something was put into it, so that this is counted here.
func (t *traffic) put(packet int, at port) bool {
	if _, has := behind(t.mesh, at.router, at.out); !has {
		return false
	}
	q := t.queues[at]
	if q == nil {
		q = &queue[int]{room: t.mesh.Room}
		t.queues[at] = q
	}
	if !q.put(packet) {
		return false
	}
	t.stations[at.router].held++
	most := &t.report.Most[at.router][at.class]
	*most = max(*most, len(q.list))
	return true
}

// send lets each output of a router send what is first there.
func (t *traffic) send(router, now int) {
	for k, out := range outputs {
		packet, ok := t.queues[port{router, out, 1}].take()
		if !ok {
			packet, ok = t.queues[port{router, out, 0}].take()
		}
		if !ok {
			continue
		}
		t.stations[router].held--
		if out == Local {
			t.report.Arrivals = append(t.report.Arrivals, Arrival{Packet: packet, Core: router, Tick: now})
			continue
		}
		// In the order of the outputs the one that leads back is two further, or two before.
		to, _ := behind(t.mesh, router, out)
		t.stations[to].came[(k+2)%links] = packet
	}
}
