package mesh_test

import (
	"math"
	"slices"
	"testing"

	"ganglion/api"
	"ganglion/mesh"
)

// arr and drops return arrivals and drops whose numbers are given in turns.
func arr(l ...int) []mesh.Arrival {
	var out []mesh.Arrival
	for i := 0; i < len(l); i += 3 {
		out = append(out, mesh.Arrival{Packet: l[i], Core: l[i+1], Tick: l[i+2]})
	}
	return out
}

func drops(l ...int) []mesh.Drop {
	var out []mesh.Drop
	for i := 0; i < len(l); i += 4 {
		out = append(out, mesh.Drop{Packet: l[i], Router: l[i+1], Out: l[i+2], Tick: l[i+3]})
	}
	return out
}

// most returns Most for six routers, where a router is given with its two numbers.
func most(l ...int) [][2]int {
	out := make([][2]int, 6)
	for i := 0; i < len(l); i += 3 {
		out[l[i]] = [2]int{l[i+1], l[i+2]}
	}
	return out
}

// P4.5: the examples of the chapter, and runs that end before all have arrived.
func TestP4_5Examples(t *testing.T) {
	tables := tablesOf(t, six, []mesh.Way{{Key: 7, Source: 0, Targets: []int{2, 5, 0}}, {Key: 3, Source: 1, Targets: []int{1}}})
	low, high := mesh.Packet{Key: 7}, mesh.Packet{Key: 7, Class: 1}
	three := most(0, 2, 0, 1, 1, 0, 2, 1, 0, 5, 1, 0)
	for name, x := range map[string]struct {
		l     []mesh.Packet
		ticks int
		want  mesh.Report
	}{
		"one": {[]mesh.Packet{{Tick: 4, Key: 7}}, 20, mesh.Report{Arrivals: arr(0, 0, 4, 0, 2, 6, 0, 5, 7), Most: most(0, 1, 0, 1, 1, 0, 2, 1, 0, 5, 1, 0)}},
		"three": {[]mesh.Packet{low, low, low}, 20, mesh.Report{
			Arrivals: arr(0, 0, 0, 1, 0, 1, 0, 2, 2, 1, 2, 3, 0, 5, 3, 1, 5, 4), Drops: drops(2, 0, mesh.East, 0, 2, 0, mesh.Local, 0), Most: three}},
		"a high one": {[]mesh.Packet{low, low, high}, 20, mesh.Report{
			Arrivals: arr(2, 0, 0, 0, 0, 1, 1, 0, 2, 2, 2, 2, 0, 2, 3, 2, 5, 3, 1, 2, 4, 0, 5, 4, 1, 5, 5), Most: most(0, 2, 1, 1, 1, 1, 2, 1, 1, 5, 1, 1)}},
		"no entry":        {[]mesh.Packet{{Key: 9}, {Tick: 2, Source: 4, Key: 7}}, 20, mesh.Report{Drops: drops(0, 0, 0, 0, 1, 4, 0, 2), Most: most()}},
		"no ticks":        {[]mesh.Packet{low}, 0, mesh.Report{Most: most()}},
		"no packets":      {nil, 20, mesh.Report{Most: most()}},
		"before its Tick": {[]mesh.Packet{{Tick: 5, Key: 7}, {Tick: 10000, Key: 7}}, 5, mesh.Report{Most: most()}},
		"on a link":       {[]mesh.Packet{low}, 1, mesh.Report{Arrivals: arr(0, 0, 0), Most: most(0, 1, 0), Rest: 1}},
		"in queues":       {[]mesh.Packet{low, low}, 1, mesh.Report{Arrivals: arr(0, 0, 0), Most: most(0, 2, 0), Rest: 3}},
		"the last tick":   {[]mesh.Packet{{Tick: 9999, Source: 1, Key: 3}}, 10000, mesh.Report{Arrivals: arr(0, 1, 9999), Most: most(1, 1, 0)}},
		"not sorted":      {[]mesh.Packet{{Tick: 3, Source: 1, Key: 3}, {Tick: 1, Source: 1, Key: 3, Class: 1}}, 9, mesh.Report{Arrivals: arr(1, 1, 1, 0, 1, 3), Most: most(1, 1, 1)}},
	} {
		if r := run(t, six, tables, x.l, x.ticks); !sameReport(r, x.want) {
			t.Errorf("%s: %v, want %v", name, r, x.want)
		}
	}
}

// P4.5: what enters a router comes over the links, in the order of the outputs that lead back, and then from its core.
func TestP4_5Order(t *testing.T) {
	s := mesh.Spec{Wide: 3, High: 3, Room: 5}
	var ways []mesh.Way
	for key, source := range []int{4, 1, 3, 7, 5} {
		ways = append(ways, mesh.Way{Key: key, Source: source, Targets: []int{4}})
	}
	// The router 5 is in the east of the router 4, 7 in the north, 3 in the west, and 1 in the south.
	packets := []mesh.Packet{{Tick: 1, Source: 4, Key: 0}, {Source: 1, Key: 1}, {Source: 3, Key: 2}, {Source: 7, Key: 3}, {Source: 5, Key: 4}, {Tick: 1, Source: 4, Key: 0}}
	r := run(t, s, tablesOf(t, s, ways), packets, 20)
	if !slices.Equal(r.Arrivals, arr(4, 4, 1, 3, 4, 2, 2, 4, 3, 1, 4, 4, 0, 4, 5)) || !slices.Equal(r.Drops, drops(5, 4, mesh.Local, 1)) {
		t.Errorf("Run: %v", r)
	}
	if r.Most[4] != [2]int{5, 0} || r.Most[1] != [2]int{1, 0} {
		t.Errorf("Most: %v", r.Most)
	}
}

// P4.5: drops are sorted by routers, and at a router by packets, and at a packet from East to Local.
func TestP4_5Drops(t *testing.T) {
	s := mesh.Spec{Wide: 2, High: 1, Room: 1}
	tables := full(s, entry(0, 65535, 31), entry(1, 65535, mesh.Local|mesh.East))
	packets := []mesh.Packet{{Source: 1}, {Source: 0}, {Source: 1, Key: 1}, {Source: 0, Key: 1, Class: 1}, {Source: 0, Key: 2}}
	want := drops(
		1, 0, mesh.North, 0, 1, 0, mesh.West, 0, 1, 0, mesh.South, 0, 4, 0, 0, 0,
		0, 1, mesh.East, 0, 0, 1, mesh.North, 0, 0, 1, mesh.South, 0, 2, 1, mesh.East, 0, 2, 1, mesh.Local, 0)
	if r := run(t, s, tables, packets, 1); !slices.Equal(r.Drops, want) || !slices.Equal(r.Most, [][2]int{{1, 1}, {1, 0}}) || !slices.Equal(r.Arrivals, arr(3, 0, 0, 0, 1, 0)) || r.Rest != 4 {
		t.Errorf("Run: %v, want the drops %v", r, want)
	}
}

// P4.5: each class has a queue of its own, with all its places, and a place is free again in the next tick.
func TestP4_5Room(t *testing.T) {
	for room := 1; room <= mesh.MaxRoom; room++ {
		s := mesh.Spec{Wide: 1, High: 1, Room: room}
		var packets []mesh.Packet
		for i := range 2*room + 2 {
			packets = append(packets, mesh.Packet{Class: i % 2})
		}
		packets = append(packets, mesh.Packet{Tick: 1, Class: 1}, mesh.Packet{Tick: 1, Class: 1}, mesh.Packet{Tick: 1})
		r := run(t, s, full(s, entry(0, 0, mesh.Local)), packets, 3*room+9)
		n := 2 * room
		want := drops(n, 0, mesh.Local, 0, n+1, 0, mesh.Local, 0, n+3, 0, mesh.Local, 1, n+4, 0, mesh.Local, 1)
		if !slices.Equal(r.Drops, want) || r.Most[0] != [2]int{room, room} || len(r.Arrivals) != n+1 || r.Rest != 0 {
			t.Errorf("Run with the room %d: %v, want the drops %v", room, r, want)
		}
	}
}

// P4.5: a packet that goes in a circle goes on for ever, and one that gets more fills the queues.
func TestP4_5Circles(t *testing.T) {
	s := mesh.Spec{Wide: 2, High: 2, Room: 1}
	tables := [][]mesh.Entry{{entry(0, 0, mesh.East)}, {entry(0, 0, mesh.North)}, {entry(0, 0, mesh.South|mesh.Local)}, {entry(0, 0, mesh.West)}}
	r := run(t, s, tables, []mesh.Packet{{}}, 10000)
	if len(r.Arrivals) != 2500 || r.Arrivals[2499] != (mesh.Arrival{Core: 2, Tick: 9999}) || len(r.Drops) != 0 || r.Rest != 1 {
		t.Errorf("Run in a circle: %d arrivals, Rest %d, the drops %v", len(r.Arrivals), r.Rest, r.Drops)
	}
	// In the tick 0 there is one copy at East, which then is at West, and so on.
	line := mesh.Spec{Wide: 2, High: 1, Room: 3}
	r = run(t, line, [][]mesh.Entry{{entry(0, 0, mesh.East|mesh.Local)}, {entry(0, 0, mesh.West)}}, []mesh.Packet{{}}, 7)
	if !slices.Equal(r.Arrivals, arr(0, 0, 0, 0, 0, 2, 0, 0, 4, 0, 0, 6)) || r.Rest != 1 {
		t.Errorf("Run to and fro: %v", r)
	}
}

// P4.5: the errors, in their order.
func TestP4_5Errors(t *testing.T) {
	good := full(six, entry(0, 0, mesh.Local))
	many := func(p mesh.Packet) []mesh.Packet { return slices.Repeat([]mesh.Packet{p}, mesh.MaxPackets) }
	tooMany := make([]mesh.Packet, mesh.MaxPackets+1)
	packet := func(l ...mesh.Packet) []mesh.Packet {
		return append([]mesh.Packet{{Tick: 10000, Source: 5, Key: 65535, Class: 1}}, l...)
	}
	for name, x := range map[string]struct {
		tables [][]mesh.Entry
		l      []mesh.Packet
		ticks  int
		want   api.Errno
	}{
		"the most packets":        {good, many(mesh.Packet{}), 2, api.OK},
		"the greatest numbers":    {good, packet(), 10000, api.OK},
		"a table less":            {good[1:], tooMany, -1, api.ErrShape},
		"too many entries":        {append(full(six)[:5], make([]mesh.Entry, 1025)), tooMany, -1, api.ErrMany},
		"a bad entry":             {append(full(six)[:5], make([]mesh.Entry, 1)), tooMany, -1, api.ErrArg},
		"too many packets":        {good, append(many(mesh.Packet{}), mesh.Packet{Tick: -1}), -1, api.ErrMany},
		"a Tick that is negative": {good, packet(mesh.Packet{Tick: -1, Source: 6}), -1, api.ErrRange},
		"a Tick that is too late": {good, packet(mesh.Packet{Tick: 10001, Source: 6}), 0, api.ErrRange},
		"no such source":          {good, packet(mesh.Packet{Source: 6, Key: -1, Class: 2}), -1, api.ErrNone},
		"a negative source":       {good, packet(mesh.Packet{Source: -1, Key: -1}), 0, api.ErrNone},
		"a negative key":          {good, packet(mesh.Packet{Key: -1, Class: 2}), 0, api.ErrRange},
		"a key that is too great": {good, packet(mesh.Packet{Key: 65536, Class: 2}), 0, api.ErrRange},
		"a class":                 {good, packet(mesh.Packet{Class: 2}), -1, api.ErrArg},
		"a negative class":        {good, packet(mesh.Packet{Class: -1}), -1, api.ErrArg},
		"the first packet":        {good, packet(mesh.Packet{Class: 2}, mesh.Packet{Tick: -1}), 0, api.ErrArg},
		"negative ticks":          {good, packet(), -1, api.ErrRange},
		"too many ticks":          {good, nil, 10001, api.ErrRange},
		"the greatest ticks":      {good, nil, math.MaxInt, api.ErrRange},
	} {
		if r, e := mesh.Run(six, x.tables, x.l, x.ticks); e != x.want || e != api.OK && !empty(r) {
			t.Errorf("%s: %v, %d, want %d", name, r, e, x.want)
		}
	}
}

// P4.5: runs are as the definition says, with the tables of ways, and with tables that nobody has planned.
func TestP4_5Model(t *testing.T) {
	var g generator = 31
	arrivals, lost, rests := 0, 0, 0
	for i := range 3000 {
		s := g.spec(g.one(1, 2, 3, 4, 4, 8))
		tables := g.tables(s)
		packets := g.packets(s, g.from(0, 30), g.from(1, 12))
		if i%2 == 0 {
			ways := g.ways(s, g.from(1, 10))
			tables, packets = tablesOf(t, s, ways), g.send(ways, g.from(0, 40), g.from(1, 12))
		}
		ticks := g.from(0, 25)
		want := runModel(s, tables, packets, ticks)
		if r := run(t, s, tables, packets, ticks); !sameReport(r, want) {
			t.Fatalf("Run(%v, %v, %v, %d): %v, want %v", s, tables, packets, ticks, r, want)
		}
		arrivals, lost, rests = arrivals+len(want.Arrivals), lost+len(want.Drops), rests+want.Rest
	}
	if arrivals < 20000 || lost < 10000 || rests < 5000 {
		t.Errorf("%d arrivals, %d drops, Rest %d", arrivals, lost, rests)
	}
}

// P4.5, R4: a run depends on nothing but its arguments.
func TestP4_5Again(t *testing.T) {
	var g generator = 37
	for range 100 {
		s := g.spec(5)
		tables, packets := g.tables(s), g.packets(s, 60, 8)
		a := run(t, s, tables, packets, 40)
		b := run(t, s, tables, packets, 40)
		if !sameReport(a, b) {
			t.Fatalf("Run twice: %v, %v", a, b)
		}
		for i := range a.Most {
			a.Most[i] = [2]int{-1, -1}
		}
		if c := run(t, s, tables, packets, 40); !sameReport(b, c) {
			t.Fatalf("Run for the third time: %v, before %v", c, b)
		}
	}
}
