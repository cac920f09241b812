package calc_test

import (
	"cmp"
	"slices"
	"testing"

	"ganglion/api"
	"ganglion/calc"
	"ganglion/mesh"
)

// moving is a copy that enters a router, over the link to which this output leads back; Local stands for the core.
type moving struct{ packet, router, out int }

// over returns how a packet enters the router to which a link leads.
func over(s mesh.Spec, packet int, h hop) moving {
	switch h.out {
	case mesh.East:
		return moving{packet, h.router + 1, mesh.West}
	case mesh.West:
		return moving{packet, h.router - 1, mesh.East}
	case mesh.North:
		return moving{packet, h.router + s.Wide, mesh.South}
	}
	return moving{packet, h.router - s.Wide, mesh.North}
}

// runModel runs packets of flows, by their keys, over queues that are never full, and returns the arrivals, and how
// many copies were in each queue at most.
func runModel(s mesh.Spec, l []calc.Flow, packets []mesh.Packet) ([]mesh.Arrival, map[queue]int) {
	trees := map[int]map[hop]calc.Curve{}
	for _, f := range l {
		trees[f.Way.Key] = curvesModel(s, f, nil)
	}
	var arrivals []mesh.Arrival
	queues, most := map[queue][]int{}, map[queue]int{}
	for now, links := 0, []moving(nil); now < api.MaxTicks; now++ {
		for i, p := range packets {
			if p.Tick == now {
				links = append(links, moving{i, p.Source, mesh.Local})
			}
		}
		slices.SortStableFunc(links, func(a, b moving) int {
			return cmp.Or(cmp.Compare(a.router, b.router), cmp.Compare(a.out, b.out))
		})
		for _, m := range links {
			for _, out := range []int{1, 2, 4, 8, 16} {
				q := queue{hop{m.router, out}, packets[m.packet].Class}
				if _, takes := trees[packets[m.packet].Key][q.hop]; takes {
					queues[q] = append(queues[q], m.packet)
					most[q] = max(most[q], len(queues[q]))
				}
			}
		}
		links = nil
		for router := range s.Wide * s.High {
			for _, out := range []int{1, 2, 4, 8, 16} {
				q := queue{hop{router, out}, 1}
				if len(queues[q]) == 0 {
					q.class = 0
				}
				if len(queues[q]) == 0 {
					continue
				}
				packet := queues[q][0]
				queues[q] = queues[q][1:]
				if out == mesh.Local {
					arrivals = append(arrivals, mesh.Arrival{Packet: packet, Core: router, Tick: now})
				} else {
					links = append(links, over(s, packet, q.hop))
				}
			}
		}
		if len(arrivals) >= copies(s, l, packets) {
			break
		}
	}
	return arrivals, most
}

// copies returns how many arrivals packets have, if none is dropped.
func copies(s mesh.Spec, l []calc.Flow, packets []mesh.Packet) int {
	n := 0
	for _, p := range packets {
		i := slices.IndexFunc(l, func(f calc.Flow) bool { return f.Way.Key == p.Key })
		targets := slices.Clone(l[i].Way.Targets)
		slices.Sort(targets)
		n += len(slices.Compact(targets))
	}
	return n
}

// send draws packets of flows that keep their curves.
func (g *generator) send(t *testing.T, l []calc.Flow, ticks int) []mesh.Packet {
	t.Helper()
	var packets []mesh.Packet
	for _, f := range l {
		for _, tick := range g.arriving(t, f.Curve, g.from(1, 20), ticks) {
			if tick < 1000 {
				packets = append(packets, mesh.Packet{Tick: tick, Source: f.Way.Source, Key: f.Way.Key, Class: f.Class})
			}
		}
	}
	return packets
}

// room returns the least room that is enough for a report.
func room(r calc.Report) int {
	n := 1
	for _, b := range r.Bounds {
		n = max(n, b.Places)
	}
	return n
}

// runs lets packets of flows run on a mesh, on which no queue may be full.
func runs(t *testing.T, s mesh.Spec, l []calc.Flow, packets []mesh.Packet) mesh.Report {
	t.Helper()
	var ways []mesh.Way
	for _, f := range l {
		ways = append(ways, f.Way)
	}
	tables, e := mesh.Tables(s, ways)
	if e != api.OK {
		t.Fatalf("Tables(%v, %v): the error %d", s, ways, e)
	}
	r, e := mesh.Run(s, tables, packets, api.MaxTicks)
	if e != api.OK || r.Rest != 0 || len(r.Drops) > 0 || len(r.Arrivals) != copies(s, l, packets) {
		t.Fatalf("Run(%v, %v, %v): %v, the error %d", s, l, packets, r, e)
	}
	return r
}

// check runs packets of flows with the least room that a report needs, and returns how many arrived as late as they
// can, and how many queues were as full.
func check(t *testing.T, s mesh.Spec, l []calc.Flow, packets []mesh.Packet, r calc.Report) (latest, fullest int) {
	t.Helper()
	s.Room = room(r)
	if is, e := calc.Enough(s, r); !is || e != api.OK {
		t.Fatalf("Enough(%v, %v): %v, %d", s, r, is, e)
	}
	ran := runs(t, s, l, packets)
	arrivals, most := runModel(s, l, packets)
	if !slices.Equal(arrivals, ran.Arrivals) {
		t.Fatalf("Run(%v, %v, %v): %v, want %v", s, l, packets, ran.Arrivals, arrivals)
	}
	for _, a := range ran.Arrivals {
		p := packets[a.Packet]
		i := slices.IndexFunc(l, func(f calc.Flow) bool { return f.Way.Key == p.Key })
		late := r.Late[i][slices.Index(l[i].Way.Targets, a.Core)]
		if a.Tick-p.Tick > late {
			t.Fatalf("%v on %v: %v arrives at %d in %d, want at most %d ticks later", l, s, p, a.Core, a.Tick, late)
		}
		if a.Tick-p.Tick == late {
			latest++
		}
	}
	for _, b := range r.Bounds {
		n := most[queue{hop{b.Router, b.Out}, b.Class}]
		if n > b.Places {
			t.Fatalf("%v on %v, %v: %d copies, want at most %v", l, s, packets, n, b)
		}
		if n == b.Places && n > 1 {
			fullest++
		}
	}
	for router, most := range ran.Most {
		for class, n := range most {
			if places := placesAt(r, router, class); n > places {
				t.Fatalf("%v on %v: Most of the router %d is %v, want at most %d", l, s, router, most, places)
			}
		}
	}
	return latest, fullest
}

// placesAt returns the greatest Places of the queues of a class at a router.
func placesAt(r calc.Report, router, class int) int {
	n := 0
	for _, b := range r.Bounds {
		if b.Router == router && b.Class == class {
			n = max(n, b.Places)
		}
	}
	return n
}

// P5.8, G2: no packet is dropped, none is later than Late says, and no queue has more copies than Places says.
func TestP5_8Analysed(t *testing.T) {
	var g generator = 53
	latest, fullest := 0, 0
	for range 1500 {
		x := g.analysis()
		if room(x.r) > mesh.MaxRoom {
			continue
		}
		a, b := check(t, x.s, x.l, g.send(t, x.l, g.one(1, 20, 60)), x.r)
		latest, fullest = latest+a, fullest+b
	}
	if latest < 3000 || fullest < 1000 {
		t.Errorf("%d packets arrive as late as they can, %d queues are as full", latest, fullest)
	}
}

// P5.8, G2: the same for reports that state more, and that Verify accepts.
func TestP5_8Verified(t *testing.T) {
	var g generator = 59
	checked := 0
	for range 700 {
		x := g.analysis()
		r, ok := g.more(x)
		if !ok || room(r) > mesh.MaxRoom {
			continue
		}
		if e := calc.Verify(x.s, x.l, r); e != api.OK {
			t.Fatalf("Verify(%v, %v, %v): %d", x.s, x.l, r, e)
		}
		check(t, x.s, x.l, g.send(t, x.l, 20), r)
		checked++
	}
	if checked < 200 {
		t.Errorf("only %d reports", checked)
	}
}

// P5.8: with the least room the worst packets of two flows that meet just go on; with less they do not, and Enough says so.
func TestP5_8LeastRoom(t *testing.T) {
	s := mesh.Spec{Wide: 1, High: 1, Room: 4}
	l := []calc.Flow{flow(1, 0, 0, curve(2048, 0), 0), flow(2, 0, 0, curve(2048, 0), 0)}
	packets := []mesh.Packet{{Key: 1}, {Key: 2}, {Key: 1}, {Key: 2}}
	r, e := calc.Analyse(s, l)
	if e != api.OK || !slices.Equal(r.Bounds, []calc.Bound{bound(0, 16, 0, 3, 4)}) {
		t.Fatalf("Analyse: %v, %d", r, e)
	}
	if latest, fullest := check(t, s, l, packets, r); latest != 1 || fullest != 1 {
		t.Errorf("%d packets arrive as late as they can, %d queues are as full", latest, fullest)
	}
	s.Room = 3
	if is, e := calc.Enough(s, r); is || e != api.OK {
		t.Errorf("Enough with the room 3: %v, %d", is, e)
	}
	if again, e := calc.Analyse(s, l); e != api.OK || !sameReport(again, r) {
		t.Errorf("Analyse with the room 3: %v, %d", again, e)
	}
}
