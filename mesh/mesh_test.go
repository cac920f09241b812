package mesh_test

import (
	"math"
	"slices"
	"testing"

	"ganglion/api"
	"ganglion/mesh"
)

// six is the mesh S of the chapter's examples, and eight the greatest one.
var (
	six   = mesh.Spec{Wide: 3, High: 2, Room: 2}
	eight = mesh.Spec{Wide: 8, High: 8, Room: 64}
)

// edges are numbers at and around all bounds, and the greatest ones of all.
var edges = []int{0, 1, -1, 2, 3, 5, 6, 7, 8, 9, 31, 32, 63, 64, 65, 1023, 1024, 1025, api.MaxTicks, api.MaxTicks + 1, mesh.MaxKey, mesh.MaxKey + 1, -mesh.MaxKey, math.MaxInt, math.MinInt, math.MaxInt - 1, math.MinInt + 1}

// badSpecs are meshes that are not valid.
func badSpecs() []mesh.Spec {
	l := []mesh.Spec{{}, {Wide: math.MaxInt, High: math.MaxInt, Room: 1}, {Wide: 1 << 32, High: 1 << 32, Room: 1}}
	for _, x := range []int{0, -1, 9, math.MaxInt, math.MinInt} {
		l = append(l, mesh.Spec{Wide: x, High: 2, Room: 2}, mesh.Spec{Wide: 2, High: x, Room: 2})
	}
	for _, x := range []int{0, -1, 65, math.MaxInt, math.MinInt} {
		l = append(l, mesh.Spec{Wide: 2, High: 2, Room: x})
	}
	return l
}

func entry(key, mask, outs int) mesh.Entry { return mesh.Entry{Key: key, Mask: mask, Outs: outs} }

// full returns a table for each router of a mesh with these entries.
func full(s mesh.Spec, l ...mesh.Entry) [][]mesh.Entry {
	return slices.Repeat([][]mesh.Entry{l}, s.Wide*s.High)
}

func cloneTables(tables [][]mesh.Entry) [][]mesh.Entry {
	var c [][]mesh.Entry
	for _, l := range tables {
		c = append(c, slices.Clone(l))
	}
	return c
}

func sameTables(a, b [][]mesh.Entry) bool { return slices.EqualFunc(a, b, slices.Equal[[]mesh.Entry]) }

func sameReport(a, b mesh.Report) bool {
	return slices.Equal(a.Arrivals, b.Arrivals) && slices.Equal(a.Drops, b.Drops) && slices.Equal(a.Most, b.Most) && a.Rest == b.Rest
}

// empty reports whether nothing is in a report.
func empty(r mesh.Report) bool { return sameReport(r, mesh.Report{}) }

// run, tree and tablesOf are the functions for arguments that are known to be valid.
func run(t *testing.T, s mesh.Spec, tables [][]mesh.Entry, l []mesh.Packet, ticks int) mesh.Report {
	t.Helper()
	r, e := mesh.Run(s, tables, l, ticks)
	if e != api.OK {
		t.Fatalf("Run(%v, %v, %v, %d): the error %d", s, tables, l, ticks, e)
	}
	return r
}

func tree(t *testing.T, s mesh.Spec, source int, targets []int) []int {
	t.Helper()
	outs, e := mesh.Tree(s, source, targets)
	if e != api.OK {
		t.Fatalf("Tree(%v, %d, %v): the error %d", s, source, targets, e)
	}
	return outs
}

func tablesOf(t *testing.T, s mesh.Spec, l []mesh.Way) [][]mesh.Entry {
	t.Helper()
	tables, e := mesh.Tables(s, l)
	if e != api.OK {
		t.Fatalf("Tables(%v, %v): the error %d", s, l, e)
	}
	return tables
}

// generator is the generator of the document, so that every run of the tests has the same cases.
type generator uint64

func (g *generator) below(n int) int {
	*g = *g*6364136223846793005 + 1442695040888963407
	return int(uint64(*g) >> 33 % uint64(n))
}

func (g *generator) from(least, most int) int { return least + g.below(most-least+1) }

func (g *generator) one(l ...int) int { return l[g.below(len(l))] }

// spec draws a mesh whose sides are at most so long.
func (g *generator) spec(side int) mesh.Spec {
	return mesh.Spec{Wide: g.from(1, side), High: g.from(1, side), Room: g.from(1, 4)}
}

// router draws a router of a mesh.
func (g *generator) router(s mesh.Spec) int { return g.below(s.Wide * s.High) }

// ways draws so many ways, with different keys that are no more than 64 times as many.
func (g *generator) ways(s mesh.Spec, n int) []mesh.Way {
	var l []mesh.Way
	used := map[int]bool{}
	for len(l) < n {
		w := mesh.Way{Key: g.below(64 * n), Source: g.router(s)}
		for range g.from(1, 6) {
			w.Targets = append(w.Targets, g.router(s))
		}
		if !used[w.Key] {
			used[w.Key] = true
			l = append(l, w)
		}
	}
	return l
}

// send draws so many packets of ways, in ticks below the given one.
func (g *generator) send(l []mesh.Way, n, ticks int) []mesh.Packet {
	var packets []mesh.Packet
	for range n {
		w := l[g.below(len(l))]
		packets = append(packets, mesh.Packet{Tick: g.below(ticks), Source: w.Source, Key: w.Key, Class: g.below(2)})
	}
	return packets
}

// entry draws a valid entry whose key has at most so many bits; the mask misses some of these.
func (g *generator) entry(bits int) mesh.Entry {
	mask := mesh.MaxKey
	for range g.below(3) {
		mask &^= 1 << g.below(bits)
	}
	return entry(g.below(1<<bits)&mask, mask, g.from(1, 31))
}

// tables draws tables that nobody has planned, so that packets go in circles, get more, or lead nowhere.
func (g *generator) tables(s mesh.Spec) [][]mesh.Entry {
	tables := make([][]mesh.Entry, s.Wide*s.High)
	for i := range tables {
		for range g.below(6) {
			x := g.entry(3)
			if g.below(2) == 0 {
				x.Outs = 1 << g.below(5)
			}
			tables[i] = append(tables[i], x)
		}
	}
	return tables
}

// packets draws so many packets whose keys have 3 bits, in ticks below the given one.
func (g *generator) packets(s mesh.Spec, n, ticks int) []mesh.Packet {
	var l []mesh.Packet
	for range n {
		l = append(l, mesh.Packet{Tick: g.below(ticks), Source: g.router(s), Key: g.below(8), Class: g.below(2)})
	}
	return l
}

// P0, R2, R4: whatever the numbers are, every function returns, has nothing with an error, and changes no argument.
func TestP0AnyNumbers(t *testing.T) {
	var g generator = 3
	any := func() int { return g.one(edges...) }
	good := 0
	for range 20000 {
		s := g.spec(8)
		if g.below(4) == 0 {
			s = mesh.Spec{Wide: any(), High: any(), Room: any()}
		}
		if d, e := mesh.Distance(s, any(), any()); e != api.OK && d != 0 {
			t.Errorf("Distance: %d with the error %d", d, e)
		}
		if l, e := mesh.Route(s, any(), any()); (len(l) > 0) != (e == api.OK) {
			t.Errorf("Route: %v with the error %d", l, e)
		}
		targets := []int{any(), any()}[:g.below(3)]
		before := slices.Clone(targets)
		if l, e := mesh.Tree(s, any(), targets); (len(l) > 0) != (e == api.OK) {
			t.Errorf("Tree: %v with the error %d", l, e)
		}
		l, e := mesh.Tables(s, []mesh.Way{{Key: any(), Source: any(), Targets: targets}})
		if (len(l) > 0) != (e == api.OK) {
			t.Errorf("Tables: %v with the error %d", l, e)
		}
		if e == api.OK {
			good++
		}
		if !slices.Equal(targets, before) {
			t.Errorf("the targets were %v, are %v", before, targets)
		}
		if outs, ok := mesh.Find([]mesh.Entry{entry(any(), any(), any())}, any()); !ok && outs != 0 {
			t.Errorf("Find: %d, but none", outs)
		}
		if l, e := mesh.Barrier(s, []int{any(), any(), any(), any()}[:g.below(5)]); (len(l) > 0) != (e == api.OK) {
			t.Errorf("Barrier: %v with the error %d", l, e)
		}
	}
	if good < 300 {
		t.Errorf("only %d valid ways", good)
	}
}

// P0, R2, R4: the same for the functions with tables.
func TestP0AnyTables(t *testing.T) {
	var g generator = 5
	any := func() int { return g.one(edges...) }
	good, bad := 0, 0
	for range 4000 {
		s := g.spec(3)
		tables, packets := g.tables(s), g.packets(s, g.below(20), 10)
		if i := g.below(2 * len(tables)); i < len(tables) {
			x := entry(any(), any(), any())
			tables[i] = slices.Insert(tables[i], g.below(len(tables[i])+1), x)
		}
		if g.below(8) == 0 {
			tables = tables[:g.below(len(tables)+1)]
		}
		if i := g.below(80); i < len(packets) {
			p := &packets[i]
			*[]*int{&p.Tick, &p.Source, &p.Key, &p.Class}[g.below(4)] = any()
		}
		beforeTables, beforePackets := cloneTables(tables), slices.Clone(packets)
		check := mesh.CheckTables(s, tables)
		r, e := mesh.Run(s, tables, packets, g.one(any(), 20))
		if check != api.OK && e != check || e != api.OK && !empty(r) {
			t.Errorf("Run: %v with the error %d; CheckTables: %d", r, e, check)
		}
		if e == api.OK {
			good++
		} else {
			bad++
		}
		for _, l := range tables {
			keys := []int{any(), g.below(8), g.below(8)}[g.below(2):]
			if m, e := mesh.Merge(l, keys); e != api.OK && len(m) > 0 || e == api.OK && len(m) > len(l) {
				t.Errorf("Merge: %v with the error %d", m, e)
			}
		}
		if !sameTables(tables, beforeTables) || !slices.Equal(packets, beforePackets) {
			t.Errorf("the arguments were changed: %v, %v, were %v, %v", tables, packets, beforeTables, beforePackets)
		}
	}
	if good < 500 || bad < 500 {
		t.Errorf("%d valid runs, %d others", good, bad)
	}
}

// P0: a run in which all queues are always full, and all links busy, ends, and so does merging the greatest tables.
func TestP0Greatest(t *testing.T) {
	var g generator = 7
	l := make([]mesh.Entry, mesh.MaxEntries)
	for i := range l {
		l[i] = entry(i, 65535, 1+i%2)
	}
	l[len(l)-1] = entry(0, 0, 31)
	packets := make([]mesh.Packet, mesh.MaxPackets)
	for i := range packets {
		packets[i] = mesh.Packet{Tick: i % 10, Source: g.router(eight), Key: mesh.MaxKey, Class: i % 2}
	}
	r := run(t, eight, full(eight, l...), packets, 1000)
	if len(r.Arrivals) < 60000 || len(r.Drops) < 700000 || r.Rest < 64*5*60 || r.Most[27][1] != mesh.MaxRoom {
		t.Errorf("Run: %d arrivals, %d drops, Rest %d, Most %v", len(r.Arrivals), len(r.Drops), r.Rest, r.Most[27])
	}
	keys := make([]int, mesh.MaxEntries)
	for i := range keys {
		keys[i], l[i] = i, entry(i, 65535, 1)
	}
	if m, e := mesh.Merge(l, keys); e != api.OK || !slices.Equal(m, []mesh.Entry{entry(0, 65535-1023, 1)}) {
		t.Errorf("Merge: %v, %d", m, e)
	}
	for i := range keys {
		keys[i], l[i] = g.below(1024), g.entry(10)
		l[i].Outs = 1 + i%2
	}
	m, e := mesh.Merge(l, keys)
	if e != api.OK || len(m) == len(l) || !sameOutputs(l, m, keys) {
		t.Errorf("Merge of many entries: %d are left, the error %d", len(m), e)
	}
}
