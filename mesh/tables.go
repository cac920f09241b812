package mesh

import (
	"cmp"
	"slices"

	"ganglion/api"
)

// Tables returns the tables of all routers for some ways.
func Tables(s Spec, l []Way) ([][]Entry, api.Errno) {
	if e := Check(s); e != api.OK {
		return nil, e
	}
	if len(l) > MaxEntries {
		return nil, api.ErrMany
	}
	trees := map[int][]int{}
	for _, w := range l {
		if !among(w.Key, 0, MaxKey) {
			return nil, api.ErrRange
		}
		if trees[w.Key] != nil {
			return nil, api.ErrHave
		}
		tree, e := Tree(s, w.Source, w.Targets)
		if e != api.OK {
			return nil, e
		}
		trees[w.Key] = tree
	}
	sorted := slices.SortedFunc(slices.Values(l), func(a, b Way) int { return cmp.Compare(a.Key, b.Key) })
	tables := make([][]Entry, routers(s))
	for _, w := range sorted {
		for router, outs := range trees[w.Key] {
			if outs != 0 {
				tables[router] = append(tables[router], Entry{Key: w.Key, Mask: MaxKey, Outs: outs})
			}
		}
	}
	return tables, api.OK
}

// Find returns the outputs for a key.
func Find(l []Entry, key int) (int, bool) {
	for _, x := range l {
		if fits(x, key) {
			return x.Outs, true
		}
	}
	return 0, false
}

// fits reports whether an entry fits a key.
func fits(x Entry, key int) bool { return key&x.Mask == x.Key }

// CheckTables checks tables.
func CheckTables(s Spec, tables [][]Entry) api.Errno {
	if e := Check(s); e != api.OK {
		return e
	}
	if len(tables) != routers(s) {
		return api.ErrShape
	}
	for _, l := range tables {
		if len(l) > MaxEntries {
			return api.ErrMany
		}
		if e := checkEntries(l); e != api.OK {
			return e
		}
	}
	return api.OK
}

// checkEntries checks each entry of a table.
func checkEntries(l []Entry) api.Errno {
	for _, x := range l {
		if !among(x.Key, 0, MaxKey) || !among(x.Mask, 0, MaxKey) || x.Key&^x.Mask != 0 || !among(x.Outs, 1, 31) {
			return api.ErrArg
		}
	}
	return api.OK
}
