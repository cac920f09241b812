package mesh_test

import (
	"slices"

	"ganglion/mesh"
)

// outs are the outputs in their order, and where they lead: columns and rows. Local leads nowhere.
var (
	outs    = []int{mesh.East, mesh.North, mesh.West, mesh.South, mesh.Local}
	columns = map[int]int{mesh.East: 1, mesh.West: -1}
	rows    = map[int]int{mesh.North: 1, mesh.South: -1}
	back    = map[int]int{mesh.East: mesh.West, mesh.North: mesh.South, mesh.West: mesh.East, mesh.South: mesh.North}
)

// leads returns where an output leads, if there is such a router.
func leads(s mesh.Spec, router, out int) (int, bool) {
	column, row := router%s.Wide+columns[out], router/s.Wide+rows[out]
	if column < 0 || column >= s.Wide || row < 0 || row >= s.High {
		return 0, false
	}
	return row*s.Wide + column, true
}

// routeModel returns the routers of a route, and the outputs that it takes there, Local at the end.
func routeModel(s mesh.Spec, from, to int) (routers, taken []int) {
	column, row := from%s.Wide, from/s.Wide
	step := func(out int) {
		routers, taken = append(routers, row*s.Wide+column), append(taken, out)
		column, row = column+columns[out], row+rows[out]
	}
	for column < to%s.Wide {
		step(mesh.East)
	}
	for column > to%s.Wide {
		step(mesh.West)
	}
	for row < to/s.Wide {
		step(mesh.North)
	}
	for row > to/s.Wide {
		step(mesh.South)
	}
	step(mesh.Local)
	return routers, taken
}

// distance is what the definition says, for routers that exist.
func distance(s mesh.Spec, from, to int) int {
	x, y := to%s.Wide-from%s.Wide, to/s.Wide-from/s.Wide
	return max(x, -x) + max(y, -y)
}

// waiting is a copy in a queue.
type waiting struct{ packet, router, out, class int }

// coming is a copy that came over the link to which the output of this router leads back.
type coming struct{ packet, router, out int }

// runModel follows the definition of a run with two lists, of the copies in all queues, and of those on all links.
func runModel(s mesh.Spec, tables [][]mesh.Entry, l []mesh.Packet, ticks int) mesh.Report {
	r := mesh.Report{Most: make([][2]int, s.Wide*s.High)}
	var queues []waiting
	var links []coming
	inQueue := func(x waiting) int {
		n := 0
		for _, y := range queues {
			if y.router == x.router && y.out == x.out && y.class == x.class {
				n++
			}
		}
		return n
	}
	for now := range ticks {
		for _, c := range entering(s, l, links, now) {
			found, ok := findModel(tables[c.router], l[c.packet].Key)
			if !ok {
				r.Drops = append(r.Drops, mesh.Drop{Packet: c.packet, Router: c.router, Tick: now})
			}
			for _, out := range outs {
				x := waiting{c.packet, c.router, out, l[c.packet].Class}
				if found&out == 0 {
					continue
				}
				if _, has := leads(s, c.router, out); !has || inQueue(x) == s.Room {
					r.Drops = append(r.Drops, mesh.Drop{Packet: c.packet, Router: c.router, Out: out, Tick: now})
					continue
				}
				queues = append(queues, x)
			}
		}
		for _, x := range queues {
			r.Most[x.router][x.class] = max(r.Most[x.router][x.class], inQueue(x))
		}
		links = nil
		for router := range s.Wide * s.High {
			for _, out := range outs {
				i := first(queues, router, out)
				if i < 0 {
					continue
				}
				x := queues[i]
				queues = slices.Delete(queues, i, i+1)
				if out == mesh.Local {
					r.Arrivals = append(r.Arrivals, mesh.Arrival{Packet: x.packet, Core: router, Tick: now})
					continue
				}
				to, _ := leads(s, router, out)
				links = append(links, coming{x.packet, to, back[out]})
			}
		}
	}
	r.Rest = len(queues) + len(links)
	return r
}

// entering returns what enters in a tick, in order; Local stands for what the own core sends.
func entering(s mesh.Spec, l []mesh.Packet, links []coming, now int) []coming {
	for i, p := range l {
		if p.Tick == now {
			links = append(links, coming{i, p.Source, mesh.Local})
		}
	}
	var sorted []coming
	for router := range s.Wide * s.High {
		for _, out := range outs {
			for _, c := range links {
				if c.router == router && c.out == out {
					sorted = append(sorted, c)
				}
			}
		}
	}
	return sorted
}

// first returns the index of the copy that an output sends, or -1.
func first(queues []waiting, router, out int) int {
	for _, class := range []int{1, 0} {
		for i, x := range queues {
			if x.router == router && x.out == out && x.class == class {
				return i
			}
		}
	}
	return -1
}

// findModel asks the entries bit by bit.
func findModel(l []mesh.Entry, key int) (int, bool) {
	for _, x := range l {
		fits := true
		for bit := range 64 {
			if x.Mask>>bit&1 == 1 {
				fits = fits && x.Key>>bit&1 == key>>bit&1
			} else {
				fits = fits && x.Key>>bit&1 == 0
			}
		}
		if fits {
			return x.Outs, true
		}
	}
	return 0, false
}

// sameOutputs reports whether two tables have the same outputs for some keys.
func sameOutputs(a, b []mesh.Entry, keys []int) bool {
	for _, key := range keys {
		x, hasX := mesh.Find(a, key)
		y, hasY := mesh.Find(b, key)
		if x != y || hasX != hasY {
			return false
		}
	}
	return true
}

// joined returns the table in which two entries are joined, if they can be joined.
func joined(l []mesh.Entry, i, j int) ([]mesh.Entry, bool) {
	for bit := range 16 {
		if l[i].Mask == l[j].Mask && l[i].Outs == l[j].Outs && l[i].Key^l[j].Key == 1<<bit {
			l = slices.Delete(slices.Clone(l), j, j+1)
			l[i].Key &^= 1 << bit
			l[i].Mask &^= 1 << bit
			return l, true
		}
	}
	return nil, false
}

// mergeModel tries all pairs again behind each one that is joined.
func mergeModel(l []mesh.Entry, keys []int) []mesh.Entry {
	for i := range l {
		for j := i + 1; j < len(l); j++ {
			if next, ok := joined(l, i, j); ok && sameOutputs(l, next, keys) {
				return mergeModel(next, keys)
			}
		}
	}
	return l
}

// barrierModel goes through the ticks, and asks each router in each of them.
func barrierModel(s mesh.Spec, ready []int) []int {
	n := s.Wide * s.High
	to := func(i int) int {
		if i%s.Wide > 0 {
			return i - 1
		}
		return i - s.Wide
	}
	reported, released := map[int]int{}, map[int]int{}
	for now := 0; len(released) < n; now++ {
		for i := range n {
			all := ready[i] <= now
			for k := 1; k < n; k++ {
				if tick, has := reported[k]; to(k) == i && (!has || tick == now) {
					all = false
				}
			}
			if _, has := reported[i]; all && !has {
				reported[i] = now
			}
		}
		for i := range n {
			tick, above := released[to(max(i, 1))]
			_, has := released[i]
			if i == 0 && !has && len(reported) == n || i > 0 && !has && above && tick < now {
				released[i] = now
			}
		}
	}
	var ticks []int
	for i := range n {
		ticks = append(ticks, released[i])
	}
	return ticks
}
