package mesh_test

import (
	"math"
	"slices"
	"testing"

	"ganglion/api"
	"ganglion/mesh"
)

// P4.2: the example of the chapter, and the tables of all other routers.
func TestP4_2Tables(t *testing.T) {
	ways := []mesh.Way{{Key: 7, Source: 0, Targets: []int{2, 5, 0}}, {Key: 3, Source: 1, Targets: []int{1}}}
	want := [][]mesh.Entry{
		{entry(7, 65535, 17)},
		{entry(3, 65535, 16), entry(7, 65535, 1)},
		{entry(7, 65535, 18)},
		nil,
		nil,
		{entry(7, 65535, 16)},
	}
	if l := tablesOf(t, six, ways); !sameTables(l, want) {
		t.Errorf("Tables: %v, want %v", l, want)
	}
	if ways[0].Key != 7 || !slices.Equal(ways[0].Targets, []int{2, 5, 0}) {
		t.Errorf("the ways were changed: %v", ways)
	}
	if l := tablesOf(t, six, nil); !sameTables(l, make([][]mesh.Entry, 6)) {
		t.Errorf("Tables of no ways: %v", l)
	}
}

// P4.2: the tables have the trees of all ways, in the order of the keys, whatever the order of the ways is.
func TestP4_2TablesOfTrees(t *testing.T) {
	var g generator = 13
	for range 500 {
		s := g.spec(5)
		ways := g.ways(s, g.from(1, 30))
		tables := tablesOf(t, s, ways)
		slices.SortFunc(ways, func(a, b mesh.Way) int { return a.Key - b.Key })
		want := make([][]mesh.Entry, s.Wide*s.High)
		for _, w := range ways {
			for router, outputs := range tree(t, s, w.Source, w.Targets) {
				if outputs > 0 {
					want[router] = append(want[router], entry(w.Key, 65535, outputs))
				}
			}
		}
		if !sameTables(tables, want) {
			t.Fatalf("Tables(%v, %v): %v, want %v", s, ways, tables, want)
		}
		if e := mesh.CheckTables(s, tables); e != api.OK {
			t.Fatalf("CheckTables of Tables(%v, %v): %d", s, ways, e)
		}
	}
}

// P4.2: as many ways as there can be, with the least and the greatest key.
func TestP4_2MostWays(t *testing.T) {
	var ways []mesh.Way
	for i := range mesh.MaxEntries {
		ways = append(ways, mesh.Way{Key: mesh.MaxKey - 64*i, Source: 5, Targets: []int{3}})
	}
	ways[7].Key = 0
	tables := tablesOf(t, six, ways)
	if l := tables[4]; len(l) != mesh.MaxEntries || l[0] != entry(0, 65535, 4) || l[1023] != entry(65535, 65535, 4) {
		t.Errorf("the table of the router 4: %v", l)
	}
	if l, e := mesh.Tables(six, append(ways, mesh.Way{Key: -1})); e != api.ErrMany || len(l) > 0 {
		t.Errorf("Tables of one way more: %v, %d", l, e)
	}
}

// P4.2: the first way with an error decides, and of its errors the first one.
func TestP4_2TablesErrors(t *testing.T) {
	good := mesh.Way{Key: 1, Targets: []int{5}}
	key := func(key int) mesh.Way { return mesh.Way{Key: key, Targets: []int{0}} }
	for name, x := range map[string]struct {
		l    []mesh.Way
		want api.Errno
	}{
		"a key that is too small":     {[]mesh.Way{good, key(-1)}, api.ErrRange},
		"a key that is too great":     {[]mesh.Way{good, key(65536)}, api.ErrRange},
		"the range before the router": {[]mesh.Way{{Key: math.MinInt, Source: 6}}, api.ErrRange},
		"the same key":                {[]mesh.Way{good, key(2), key(1)}, api.ErrHave},
		"the key before the router":   {[]mesh.Way{good, {Key: 1, Source: 6}}, api.ErrHave},
		"no source":                   {[]mesh.Way{good, {Key: 2, Source: 6}}, api.ErrNone},
		"no target":                   {[]mesh.Way{good, {Key: 2, Targets: []int{1, 6}}}, api.ErrNone},
		"no targets":                  {[]mesh.Way{good, {Key: 2}}, api.ErrArg},
		"the first way":               {[]mesh.Way{good, {Key: 2}, key(1), key(-1)}, api.ErrArg},
		"a way before a range":        {[]mesh.Way{{Key: 1, Source: -1, Targets: []int{0}}, key(-1)}, api.ErrNone},
	} {
		if l, e := mesh.Tables(six, x.l); e != x.want || len(l) > 0 {
			t.Errorf("%s: %v, %d, want %d", name, l, e, x.want)
		}
	}
}

// P4.2, R4: tables are new memory.
func TestP4_2NewMemory(t *testing.T) {
	ways := []mesh.Way{{Key: 1, Targets: []int{5}}, {Key: 2, Targets: []int{5}}}
	a, b := tablesOf(t, six, ways), tablesOf(t, six, ways)
	a[0][0].Outs = 31
	a[1] = append(a[1][:1], entry(0, 0, 31))
	if b[0][0] != entry(1, 65535, 1) || b[1][1] != entry(2, 65535, 1) || a[2][0] != entry(1, 65535, 2) {
		t.Errorf("the tables share memory: %v, %v", a, b)
	}
}

// P4.3: the first entry that fits decides.
func TestP4_3Find(t *testing.T) {
	l := []mesh.Entry{entry(4, 65532, 2), entry(5, 65535, 8), entry(8, 65528, 4), entry(0, 1, 1)}
	for key, want := range map[int]int{4: 2, 5: 2, 7: 2, 8: 4, 15: 4, 16: 1, 0: 1, 65534: 1, 1: 0, 65535: 0} {
		if outputs, ok := mesh.Find(l, key); outputs != want || ok != (want > 0) {
			t.Errorf("Find %d: %d, %v", key, outputs, ok)
		}
	}
	if outputs, ok := mesh.Find(nil, 0); outputs != 0 || ok {
		t.Errorf("Find in no table: %d, %v", outputs, ok)
	}
}

// P4.3: entries that are not valid, and keys that are out of range, are as good as others.
func TestP4_3AnyEntries(t *testing.T) {
	for _, x := range []struct {
		l    mesh.Entry
		key  int
		outs int
		ok   bool
	}{
		{entry(0, 0, 1), -1, 1, true},
		{entry(0, 0, 1), math.MinInt, 1, true},
		{entry(0, 65535, 1), 65536, 1, true},
		{entry(65535, 65535, 1), -1, 1, true},
		{entry(-1, -1, 99), -1, 99, true},
		{entry(1, 0, 1), 1, 0, false},
		{entry(3, 1, 1), 3, 0, false},
		{entry(0, 0, 0), 5, 0, true},
		{entry(0, 0, -7), 5, -7, true},
		{entry(1<<40, 1<<40, 3), 1<<40 + 5, 3, true},
	} {
		if outputs, ok := mesh.Find([]mesh.Entry{x.l}, x.key); outputs != x.outs || ok != x.ok {
			t.Errorf("Find %d in %v: %d, %v", x.key, x.l, outputs, ok)
		}
	}
	var g generator = 17
	found := 0
	for range 20000 {
		l := []mesh.Entry{g.entry(3), entry(g.from(-4, 4), g.from(-4, 4), g.from(-4, 40)), g.entry(2)}
		key := g.from(-4, 8)
		want, wantOK := findModel(l, key)
		if outputs, ok := mesh.Find(l, key); outputs != want || ok != wantOK {
			t.Fatalf("Find %d in %v: %d, %v, want %d, %v", key, l, outputs, ok, want, wantOK)
		}
		if wantOK {
			found++
		}
	}
	if found < 4000 || found > 16000 {
		t.Errorf("%d were found", found)
	}
}

// P4.4: an entry is valid if its numbers are in their ranges, and its key lies in its mask.
func TestP4_4Entries(t *testing.T) {
	for _, x := range []mesh.Entry{entry(0, 0, 1), entry(65535, 65535, 31), entry(0, 65535, 16), entry(5, 7, 2)} {
		if e := mesh.CheckTables(six, full(six, x)); e != api.OK {
			t.Errorf("CheckTables with %v: %d", x, e)
		}
		if l, e := mesh.Merge([]mesh.Entry{x}, nil); e != api.OK || !slices.Equal(l, []mesh.Entry{x}) {
			t.Errorf("Merge of %v: %v, %d", x, l, e)
		}
	}
	for _, x := range []mesh.Entry{
		entry(-1, 65535, 1), entry(65536, 65536, 1), entry(65536, 65535, 1), entry(math.MinInt, -1, 1),
		entry(0, -1, 1), entry(0, 65536, 1), entry(0, math.MaxInt, 1),
		entry(1, 0, 1), entry(2, 65533, 1), entry(7, 3, 1),
		entry(0, 0, 0), entry(0, 0, 32), entry(0, 0, -1), entry(0, 0, math.MaxInt), entry(0, 0, math.MinInt),
	} {
		if e := mesh.CheckTables(six, [][]mesh.Entry{nil, nil, nil, nil, nil, {entry(0, 0, 1), x}}); e != api.ErrArg {
			t.Errorf("CheckTables with %v: %d", x, e)
		}
		if l, e := mesh.Merge([]mesh.Entry{entry(0, 0, 1), x}, []int{-1}); e != api.ErrArg || len(l) > 0 {
			t.Errorf("Merge with %v: %v, %d", x, l, e)
		}
	}
}

// P4.4: there has to be one table for each router, with at most so many entries; the first router with an error decides.
func TestP4_4CheckTables(t *testing.T) {
	most := slices.Repeat([]mesh.Entry{entry(0, 0, 1)}, mesh.MaxEntries)
	tooMany := append(slices.Clone(most), entry(0, 0, 0))
	bad := []mesh.Entry{entry(0, 0, 32)}
	for name, x := range map[string]struct {
		tables [][]mesh.Entry
		want   api.Errno
	}{
		"no entries":       {make([][]mesh.Entry, 6), api.OK},
		"the most entries": {full(six, most...), api.OK},
		"no tables":        {nil, api.ErrShape},
		"a table less":     {[][]mesh.Entry{bad, tooMany, nil, nil, nil}, api.ErrShape},
		"a table more":     {[][]mesh.Entry{nil, nil, nil, nil, nil, nil, bad}, api.ErrShape},
		"the number first": {[][]mesh.Entry{nil, tooMany, nil, bad, nil, nil}, api.ErrMany},
		"the first router": {[][]mesh.Entry{nil, bad, tooMany, nil, nil, nil}, api.ErrArg},
	} {
		if e := mesh.CheckTables(six, x.tables); e != x.want {
			t.Errorf("%s: %d, want %d", name, e, x.want)
		}
	}
}
