package place

import (
	"math/bits"

	"ganglion/mesh"
)

// links is a set of links: for each router four bits, for its outputs other than Local.
type links [mesh.MaxSide * mesh.MaxSide / 16]uint64

// linksOf returns the links of a tree.
func linksOf(tree []int) links {
	var l links
	for router, outs := range tree {
		l[router/16] |= uint64(outs&^mesh.Local) << (router % 16 * 4)
	}
	return l
}

// with returns the links of both sets.
func (l links) with(more links) links {
	for i := range l {
		l[i] |= more[i]
	}
	return l
}

// count returns how many links are in a set.
func (l links) count() int {
	n := 0
	for _, word := range l {
		n += bits.OnesCount64(word)
	}
	return n
}
