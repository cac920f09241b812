package mesh

import (
	"iter"

	"ganglion/api"
)

// Distance returns how many links are between two routers.
func Distance(s Spec, from, to int) (int, api.Errno) {
	l, e := Route(s, from, to)
	if e != api.OK {
		return 0, e
	}
	return len(l) - 1, api.OK
}

// Route returns the routers of the route from one to another one.
func Route(s Spec, from, to int) ([]int, api.Errno) {
	if e := Check(s); e != api.OK {
		return nil, e
	}
	if !exists(s, from) || !exists(s, to) {
		return nil, api.ErrNone
	}
	var l []int
	for router := range route(s, from, to) {
		l = append(l, router)
	}
	return l, api.OK
}

// Tree returns the outputs of each router in the tree of a way.
func Tree(s Spec, source int, targets []int) ([]int, api.Errno) {
	if e := Check(s); e != api.OK {
		return nil, e
	}
	if !exists(s, source) {
		return nil, api.ErrNone
	}
	for _, target := range targets {
		if !exists(s, target) {
			return nil, api.ErrNone
		}
	}
	if len(targets) == 0 {
		return nil, api.ErrArg
	}
	outs := make([]int, routers(s))
	for _, target := range targets {
		for router, out := range route(s, source, target) {
			outs[router] |= out
		}
	}
	return outs, api.OK
}

// route yields the routers of the route between two routers that exist, each with the output that the route takes
// there, which is Local at the end.
func route(s Spec, from, to int) iter.Seq2[int, int] {
	return func(yield func(int, int) bool) {
		at, out := from, toward(s, from, to)
		for yield(at, out) && out != Local {
			at, _ = behind(s, at, out)
			out = toward(s, at, to)
		}
	}
}

// toward returns the output that the route to a router takes at another one.
func toward(s Spec, at, to int) int {
	column, row := at%s.Wide, at/s.Wide
	switch {
	case column < to%s.Wide:
		return East
	case column > to%s.Wide:
		return West
	case row < to/s.Wide:
		return North
	case row > to/s.Wide:
		return South
	}
	return Local
}
