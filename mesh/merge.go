package mesh

import (
	"math/bits"
	"slices"

	"ganglion/api"
)

// Merge returns a table with fewer entries that has the same outputs for some keys.
func Merge(l []Entry, keys []int) ([]Entry, api.Errno) {
	if len(l) > MaxEntries || len(keys) > MaxEntries {
		return nil, api.ErrMany
	}
	if e := checkEntries(l); e != api.OK {
		return nil, e
	}
	for _, key := range keys {
		if !among(key, 0, MaxKey) {
			return nil, api.ErrRange
		}
	}
	m := newMerger(l, keys)
	m.merge()
	return m.list, api.OK
}

// merger merges a table.
type merger struct {
	list    []Entry
	keys    []int
	decides []int // for each key, the index of the entry that decides, or -1
}

// newMerger returns a merger of a valid table, with which nothing was done yet.
func newMerger(l []Entry, keys []int) *merger {
	m := &merger{list: slices.Clone(l), keys: keys}
	for _, key := range keys {
		m.decides = append(m.decides, slices.IndexFunc(l, func(x Entry) bool { return fits(x, key) }))
	}
	return m
}

// merge joins as long as it can be done, always the first pair. The entries before i have no partner. After a join at i
// they have none but the entry i, as the join changes the outputs of no key: a key that stops a pair before still does,
// even if the entry i decides it now. So it is enough to ask for this one partner, instead of starting again.
func (m *merger) merge() {
	for i := 0; i < len(m.list); {
		j, ok := m.partner(i)
		if !ok {
			i++
			continue
		}
		m.join(i, j)
		for before := range i {
			if m.joinable(before, i) {
				i = before
				break
			}
		}
	}
}

// partner returns the first entry behind the entry i that can be joined with it.
func (m *merger) partner(i int) (int, bool) {
	for j := i + 1; j < len(m.list); j++ {
		if m.joinable(i, j) {
			return j, true
		}
	}
	return 0, false
}

// joinable reports whether two entries i < j can be joined, and all keys have the same outputs behind it. The joined
// entry fits just what i and j fit. So only a key that j fits can get other outputs: if an entry between i and j
// decides it now.
func (m *merger) joinable(i, j int) bool {
	a, b := m.list[i], m.list[j]
	if a.Mask != b.Mask || a.Outs != b.Outs || bits.OnesCount(uint(a.Key^b.Key)) != 1 {
		return false
	}
	for k, d := range m.decides {
		if i < d && d < j && m.list[d].Outs != b.Outs && fits(b, m.keys[k]) {
			return false
		}
	}
	return true
}

// join joins two entries i < j.
func (m *merger) join(i, j int) {
	for k, d := range m.decides {
		if d > i && fits(m.list[j], m.keys[k]) {
			m.decides[k] = i
		} else if d > j {
			m.decides[k]--
		}
	}
	bit := m.list[i].Key ^ m.list[j].Key
	m.list[i].Key &^= bit
	m.list[i].Mask &^= bit
	m.list = slices.Delete(m.list, j, j+1)
}
