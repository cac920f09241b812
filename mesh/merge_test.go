package mesh_test

import (
	"slices"
	"testing"

	"ganglion/api"
	"ganglion/mesh"
)

// merge is Merge of a table and keys that are known to be valid.
func merge(t *testing.T, l []mesh.Entry, keys []int) []mesh.Entry {
	t.Helper()
	m, e := mesh.Merge(l, keys)
	if e != api.OK {
		t.Fatalf("Merge(%v, %v): the error %d", l, keys, e)
	}
	return m
}

// P4.4: the examples of the chapter, and tables in which something lies between two entries.
func TestP4_4Merge(t *testing.T) {
	four := []mesh.Entry{entry(0, 65535, 1), entry(1, 65535, 1), entry(2, 65535, 1), entry(3, 65535, 2)}
	between := []mesh.Entry{entry(0, 65535, 1), entry(1, 65535, 2), entry(1, 65535, 1)}
	less := []mesh.Entry{entry(0, 65534, 1), entry(2, 65535, 1), entry(3, 65535, 2)}
	for name, x := range map[string]struct {
		l    []mesh.Entry
		keys []int
		want []mesh.Entry
	}{
		"the example":                 {four, []int{0, 1, 2, 3}, less},
		"the example, without keys":   {four, nil, less},
		"nothing":                     {nil, nil, nil},
		"a key that others decide":    {between, []int{1}, between},
		"no key that others decide":   {between, []int{0, 2}, []mesh.Entry{entry(0, 65534, 1), entry(1, 65535, 2)}},
		"others with the same output": {[]mesh.Entry{entry(0, 65535, 1), entry(1, 65535, 1), entry(1, 65535, 1)}, []int{1}, []mesh.Entry{entry(0, 65534, 1), entry(1, 65535, 1)}},
		"a mask without a bit":        {[]mesh.Entry{entry(0, 65534, 1), entry(4, 65534, 1)}, nil, []mesh.Entry{entry(0, 65530, 1)}},
		"different masks":             {[]mesh.Entry{entry(0, 65534, 1), entry(4, 65533, 1)}, nil, []mesh.Entry{entry(0, 65534, 1), entry(4, 65533, 1)}},
		"two bits":                    {[]mesh.Entry{entry(0, 65535, 1), entry(3, 65535, 1)}, nil, []mesh.Entry{entry(0, 65535, 1), entry(3, 65535, 1)}},
		"the same key":                {[]mesh.Entry{entry(3, 65535, 1), entry(3, 65535, 1)}, nil, []mesh.Entry{entry(3, 65535, 1), entry(3, 65535, 1)}},
		"the greater key first":       {[]mesh.Entry{entry(65535, 65535, 31), entry(32767, 65535, 31)}, []int{65535, 65535}, []mesh.Entry{entry(32767, 32767, 31)}},
		"the place of the first one":  {[]mesh.Entry{entry(9, 65535, 2), entry(1, 65535, 1), entry(0, 0, 4), entry(5, 65535, 1)}, []int{1, 9}, []mesh.Entry{entry(9, 65535, 2), entry(1, 65531, 1), entry(0, 0, 4)}},
		"a key that gets an output":   {[]mesh.Entry{entry(1, 65535, 1), entry(0, 0, 4), entry(5, 65535, 1)}, []int{5}, []mesh.Entry{entry(1, 65535, 1), entry(0, 0, 4), entry(5, 65535, 1)}},
		// The first pair is (0, 1), though (0, 2) could be joined as well, and then 2 has no partner any more.
		"the first pair": {[]mesh.Entry{entry(1, 65535, 1), entry(3, 65535, 1), entry(5, 65535, 1)}, nil, []mesh.Entry{entry(1, 65533, 1), entry(5, 65535, 1)}},
		// The second pair is joined with what the first one became.
		"what was joined before": {[]mesh.Entry{entry(4, 65535, 1), entry(5, 65535, 1), entry(6, 65535, 1), entry(7, 65535, 1)}, []int{4, 5, 6, 7}, []mesh.Entry{entry(4, 65532, 1)}},
	} {
		before := slices.Clone(x.l)
		if m := merge(t, x.l, x.keys); !slices.Equal(m, x.want) {
			t.Errorf("%s: %v, want %v", name, m, x.want)
		}
		if !slices.Equal(x.l, before) {
			t.Errorf("%s: the table was %v, is %v", name, before, x.l)
		}
	}
}

// P4.4: a number of elements comes first, then the entries, and then the keys.
func TestP4_4MergeErrors(t *testing.T) {
	good := slices.Repeat([]mesh.Entry{entry(0, 0, 1)}, mesh.MaxEntries)
	bad := []mesh.Entry{entry(1, 0, 1)}
	keys := slices.Repeat([]int{mesh.MaxKey}, mesh.MaxEntries)
	for name, x := range map[string]struct {
		l    []mesh.Entry
		keys []int
		want api.Errno
	}{
		"the most":                   {good, keys, api.OK},
		"too many entries":           {append(slices.Clone(good), bad...), []int{-1}, api.ErrMany},
		"too many keys":              {bad, append(slices.Clone(keys), -1), api.ErrMany},
		"an entry that is not valid": {bad, []int{-1}, api.ErrArg},
		"a key that is too small":    {good, []int{0, -1}, api.ErrRange},
		"a key that is too great":    {nil, []int{65536}, api.ErrRange},
	} {
		if l, e := mesh.Merge(x.l, x.keys); e != x.want || e != api.OK && len(l) > 0 {
			t.Errorf("%s: %v, %d, want %d", name, l, e, x.want)
		}
	}
}

// P4.4, R4: a merged table is new memory, also if nothing was joined.
func TestP4_4NewMemory(t *testing.T) {
	l := []mesh.Entry{entry(1, 65535, 1)}
	m := merge(t, l, nil)
	m[0].Outs = 9
	if l[0] != entry(1, 65535, 1) {
		t.Errorf("the table and its merged one share memory")
	}
}

// narrow draws a table whose entries often can be joined, and keys of which some fit no entry.
func (g *generator) narrow() (l []mesh.Entry, keys []int) {
	bits, most := g.from(2, 5), g.from(1, 3)
	for range g.from(1, 24) {
		x := g.entry(bits)
		x.Outs = g.from(1, most)
		l = append(l, x)
	}
	for range g.one(0, 1, 2, 5, 40) {
		keys = append(keys, g.below(1<<bits))
	}
	return l, keys
}

// P4.4: tables are merged as the definition says, pair by pair.
func TestP4_4MergeModel(t *testing.T) {
	var g generator = 19
	joins, rests := 0, 0
	for range 20000 {
		l, keys := g.narrow()
		m, want := merge(t, l, keys), mergeModel(l, keys)
		if !slices.Equal(m, want) {
			t.Fatalf("Merge(%v, %v): %v, want %v", l, keys, m, want)
		}
		joins += len(l) - len(m)
		rests += len(m) - len(mergeModel(l, nil))
	}
	// In many tables a key has to stop what could be joined otherwise.
	if joins < 20000 || rests < 1000 {
		t.Errorf("%d joins, %d pairs that keys have stopped", joins, rests)
	}
}

// P4.11: the outputs of the keys stay, and there are no more entries; without keys no pair is left.
func TestP4_11Merging(t *testing.T) {
	var g generator = 23
	for range 10000 {
		l, keys := g.narrow()
		m := merge(t, l, keys)
		if !sameOutputs(l, m, keys) || len(m) > len(l) {
			t.Fatalf("Merge(%v, %v): %v", l, keys, m)
		}
		if again := merge(t, m, keys); !slices.Equal(again, m) {
			t.Fatalf("Merge of the merged table %v with %v: %v", m, keys, again)
		}
		m = merge(t, l, nil)
		for i := range m {
			for j := i + 1; j < len(m); j++ {
				if _, ok := joined(m, i, j); ok {
					t.Fatalf("Merge of %v without keys: %v, where %d and %d can be joined", l, m, i, j)
				}
			}
		}
	}
}

// P4.11: with merged tables the packets of the ways take the same paths.
func TestP4_11MergedTables(t *testing.T) {
	var g generator = 29
	fewer := 0
	for range 300 {
		s := g.spec(4)
		ways := g.ways(s, g.from(1, 12))
		for i := range ways {
			ways[i].Key, ways[i].Source = i, 0
		}
		tables, packets := tablesOf(t, s, ways), g.send(ways, 30, 20)
		var merged [][]mesh.Entry
		for _, l := range tables {
			var keys []int
			for _, x := range l {
				keys = append(keys, x.Key)
			}
			merged = append(merged, merge(t, l, keys))
			fewer += len(l) - len(merged[len(merged)-1])
		}
		a, b := run(t, s, tables, packets, 60), run(t, s, merged, packets, 60)
		if !sameReport(a, b) {
			t.Fatalf("Run with %v: %v, with the merged tables %v: %v", tables, a, merged, b)
		}
	}
	if fewer < 500 {
		t.Errorf("only %d entries fewer", fewer)
	}
}
