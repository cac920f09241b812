package mesh_test

import (
	"slices"
	"testing"

	"ganglion/mesh"
)

// traffic is a run with the tables of ways, until no copies are left.
type traffic struct {
	s       mesh.Spec
	targets map[int][]int // by the key
	packets []mesh.Packet
	report  mesh.Report
}

// traffic draws packets of a few ways on a mesh with so much room, and lets them run.
func (g *generator) traffic(t *testing.T, room int) traffic {
	t.Helper()
	s := g.spec(5)
	s.Room = room
	ways := g.ways(s, g.from(1, 8))
	x := traffic{s: s, targets: map[int][]int{}, packets: g.send(ways, g.from(1, 60), g.from(1, 30))}
	for _, w := range ways {
		x.targets[w.Key] = w.Targets
	}
	x.report = run(t, s, tablesOf(t, s, ways), x.packets, 2000)
	if x.report.Rest != 0 {
		t.Fatalf("%v on %v: %d copies are left", x.packets, s, x.report.Rest)
	}
	return x
}

// lostOnRoute reports whether a packet was dropped on the route to a target, at the output that the route takes.
func (x traffic) lostOnRoute(packet, target int) bool {
	routers, taken := routeModel(x.s, x.packets[packet].Source, target)
	for _, d := range x.report.Drops {
		if i := slices.Index(routers, d.Router); d.Packet == packet && i >= 0 && taken[i] == d.Out {
			return true
		}
	}
	return false
}

// P4.8, G2: a packet arrives at each target once, or was dropped on the route to it; and nowhere else.
func TestP4_8ArrivesOrDropped(t *testing.T) {
	var g generator = 41
	lost := 0
	for range 2000 {
		x := g.traffic(t, g.from(1, 6))
		at := map[[2]int]bool{}
		for _, a := range x.report.Arrivals {
			k := [2]int{a.Packet, a.Core}
			if at[k] || !slices.Contains(x.targets[x.packets[a.Packet].Key], a.Core) {
				t.Fatalf("%v: the arrival %v is not the first one, or not at a target", x, a)
			}
			at[k] = true
		}
		for i, p := range x.packets {
			for _, target := range x.targets[p.Key] {
				if at[[2]int{i, target}] == x.lostOnRoute(i, target) {
					t.Fatalf("%v: the packet %d at the target %d: has arrived and was dropped, or neither", x, i, target)
				}
			}
		}
		lost += len(x.report.Drops)
	}
	if lost < 1000 {
		t.Errorf("only %d drops", lost)
	}
}

// P4.8, G2: without drops no packet is faster than its distance, and packets of a key and a class keep their order.
func TestP4_8InOrder(t *testing.T) {
	var g generator = 43
	follows := 0
	for range 1500 {
		x := g.traffic(t, mesh.MaxRoom)
		if len(x.report.Drops) > 0 {
			t.Fatalf("%v: dropped with the greatest room", x)
		}
		last := map[[3]int]mesh.Packet{}
		for _, a := range x.report.Arrivals {
			p := x.packets[a.Packet]
			if a.Tick < p.Tick+distance(x.s, p.Source, a.Core) {
				t.Fatalf("%v: the arrival %v of %v is too early", x, a, p)
			}
			k := [3]int{p.Key, p.Class, a.Core}
			if before, has := last[k]; has {
				follows++
				if before.Tick > p.Tick {
					t.Fatalf("%v: %v arrives behind %v", x, p, before)
				}
			}
			last[k] = p
		}
	}
	if follows < 10000 {
		t.Errorf("only %d packets behind another one", follows)
	}
}

// P4.8: packets of a key and a class that are sent in one tick keep their order, too.
func TestP4_8OneTick(t *testing.T) {
	tables := tablesOf(t, eight, []mesh.Way{{Key: 1, Source: 0, Targets: []int{63, 7}}, {Key: 2, Source: 7, Targets: []int{63}}})
	var packets []mesh.Packet
	for i := range 60 {
		packets = append(packets, mesh.Packet{Tick: 5, Key: 1, Class: i % 2}, mesh.Packet{Tick: i, Source: 7, Key: 2})
	}
	r := run(t, eight, tables, packets, 500)
	last := map[[3]int]int{}
	for _, a := range r.Arrivals {
		p := packets[a.Packet]
		k := [3]int{p.Key, p.Class, a.Core}
		if before, has := last[k]; has && before > a.Packet {
			t.Errorf("the packet %d arrives at %d behind %d", a.Packet, a.Core, before)
		}
		last[k] = a.Packet
	}
	if len(r.Arrivals) != 180 || len(r.Drops) != 0 || r.Rest != 0 {
		t.Errorf("Run: %d arrivals, the drops %v, Rest %d", len(r.Arrivals), r.Drops, r.Rest)
	}
}

// P4.9: no copies are left after as many ticks behind the last Tick as there are outputs in all trees, and 1.
func TestP4_9NothingStuck(t *testing.T) {
	var g generator = 47
	for range 1500 {
		s := g.spec(6)
		s.Room = g.from(1, mesh.MaxRoom)
		ways := g.ways(s, g.from(1, 8))
		packets := g.send(ways, g.from(1, 40), g.from(1, 5))
		ticks := 1
		for _, p := range packets {
			w := ways[slices.IndexFunc(ways, func(w mesh.Way) bool { return w.Key == p.Key })]
			for _, outputs := range tree(t, s, w.Source, w.Targets) {
				for _, out := range outs {
					ticks += outputs & out / out
				}
			}
		}
		last := slices.MaxFunc(packets, func(a, b mesh.Packet) int { return a.Tick - b.Tick }).Tick
		if r := run(t, s, tablesOf(t, s, ways), packets, last+ticks); r.Rest != 0 {
			t.Fatalf("Run of %v with %v on %v, %d ticks: Rest %d", packets, ways, s, last+ticks, r.Rest)
		}
	}
}

// P4.9: a queue that is not empty sends in each tick, so that so many copies take so many ticks, and no more.
func TestP4_9EachTick(t *testing.T) {
	one := mesh.Spec{Wide: 1, High: 1, Room: mesh.MaxRoom}
	tables := tablesOf(t, one, []mesh.Way{{Targets: []int{0}}})
	packets := make([]mesh.Packet, 100)
	for i := range packets {
		packets[i].Class = i / 50
	}
	for ticks := range 110 {
		r := run(t, one, tables, packets, ticks)
		if want := min(ticks, 100); len(r.Arrivals) != want || ticks > 0 && r.Rest != 100-want {
			t.Errorf("Run, %d ticks: %d arrivals, Rest %d", ticks, len(r.Arrivals), r.Rest)
		}
	}
}

// ofHigh returns the arrivals and drops of packets of the class 1, with these numbers for the packets.
func ofHigh(r mesh.Report, numbers map[int]int) (arrivals []mesh.Arrival, lost []mesh.Drop) {
	for _, a := range r.Arrivals {
		if number, has := numbers[a.Packet]; has {
			arrivals = append(arrivals, mesh.Arrival{Packet: number, Core: a.Core, Tick: a.Tick})
		}
	}
	for _, d := range r.Drops {
		if number, has := numbers[d.Packet]; has {
			lost = append(lost, mesh.Drop{Packet: number, Router: d.Router, Out: d.Out, Tick: d.Tick})
		}
	}
	return arrivals, lost
}

// P4.10: packets of the class 1 do not notice those of the class 0, with any tables.
func TestP4_10Classes(t *testing.T) {
	var g generator = 53
	noticed, lost := 0, 0
	for i := range 2000 {
		s := g.spec(4)
		tables, packets := g.tables(s), g.packets(s, g.from(1, 60), g.from(1, 12))
		if i%2 == 0 {
			ways := g.ways(s, g.from(1, 6))
			tables, packets = tablesOf(t, s, ways), g.send(ways, g.from(1, 60), g.from(1, 12))
		}
		var high []mesh.Packet
		numbers, low := map[int]int{}, map[int]int{}
		for i, p := range packets {
			if p.Class == 1 {
				numbers[i] = len(high)
				high = append(high, p)
			} else {
				low[i] = i
			}
		}
		all := run(t, s, tables, packets, 60)
		alone := run(t, s, tables, high, 60)
		arrivals, drops := ofHigh(all, numbers)
		if !slices.Equal(arrivals, alone.Arrivals) || !slices.Equal(drops, alone.Drops) {
			t.Fatalf("Run(%v, %v, %v): %v, without the class 0: %v", s, tables, packets, all, alone)
		}
		for router, most := range all.Most {
			if most[1] != alone.Most[router][1] {
				t.Fatalf("Run(%v, %v, %v): Most %v, without the class 0: %v", s, tables, packets, all.Most, alone.Most)
			}
		}
		// Those of the class 0 do notice the others, or nothing would have been tested.
		var lowPackets []mesh.Packet
		for i, p := range packets {
			if _, has := low[i]; has {
				low[i] = len(lowPackets)
				lowPackets = append(lowPackets, p)
			}
		}
		arrivals, _ = ofHigh(all, low)
		if !slices.Equal(arrivals, run(t, s, tables, lowPackets, 60).Arrivals) {
			noticed++
		}
		lost += len(drops)
	}
	if noticed < 300 || lost < 1000 {
		t.Errorf("the class 0 was changed by the class 1 in %d runs, %d drops of the class 1", noticed, lost)
	}
}
