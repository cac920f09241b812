package calc

import (
	"ganglion/api"
	"ganglion/mesh"
)

// Analyse returns the bounds of all queues and flows.
func Analyse(s mesh.Spec, l []Flow) (Report, api.Errno) {
	if e := checkFlows(s, l); e != api.OK {
		return Report{}, e
	}
	var r Report
	e := caught(func() { r = newStudy(s, l).report() })
	return r, e
}

// checkFlows checks a mesh and the flows on it.
func checkFlows(s mesh.Spec, l []Flow) api.Errno {
	if e := mesh.Check(s); e != api.OK {
		return e
	}
	if len(l) > MaxFlows {
		return api.ErrMany
	}
	var ways []mesh.Way
	for _, f := range l {
		ways = append(ways, f.Way)
	}
	if _, e := mesh.Tables(s, ways); e != api.OK {
		return e
	}
	for _, f := range l {
		if !among(f.Class, 0, 1) {
			return api.ErrArg
		}
		if e := Check(f.Curve); e != api.OK {
			return e
		}
	}
	return api.OK
}

// queue is what is bounded: at an output of a router, the packets of a class.
type queue struct{ router, out, class int }

// spot is a router to which a flow comes.
type spot struct{ flow, router int }

// coming is how the packets of a flow come to a router.
type coming struct {
	curve Curve
	late  int // at most so many ticks behind their Ticks
}

// study is what is known of flows on a mesh. Both maps are filled when it is asked for what is not there yet, from the
// queues before. This ends: routes go along rows first, so that no queue lies, over other ones, before itself.
type study struct {
	mesh   mesh.Spec
	flows  []Flow
	trees  [][]int // of each flow
	comes  map[spot]coming
	bounds map[queue]Bound
}

// newStudy returns what is known at first, for arguments that are valid.
func newStudy(s mesh.Spec, l []Flow) *study {
	a := &study{mesh: s, flows: l, comes: map[spot]coming{}, bounds: map[queue]Bound{}}
	for _, f := range l {
		a.trees = append(a.trees, must(mesh.Tree(s, f.Way.Source, f.Way.Targets)))
	}
	return a
}

// report returns all bounds.
func (a *study) report() Report {
	var r Report
	for _, q := range a.queues() {
		r.Bounds = append(r.Bounds, a.bound(q))
	}
	r.Late = a.late()
	return r
}

// queues returns the queues that are used, in their order.
func (a *study) queues() []queue {
	var l []queue
	for router := range a.mesh.Wide * a.mesh.High {
		for out := mesh.East; out <= mesh.Local; out *= 2 {
			for class := range 2 {
				if q := (queue{router, out, class}); len(a.users(q)) > 0 {
					l = append(l, q)
				}
			}
		}
	}
	return l
}

// users returns the flows of the class of a queue that take its output.
func (a *study) users(q queue) []int {
	var l []int
	for i, f := range a.flows {
		if f.Class == q.class && a.trees[i][q.router]&q.out != 0 {
			l = append(l, i)
		}
	}
	return l
}

// late returns for each flow and each target how late packets arrive at most.
func (a *study) late() [][]int {
	l := make([][]int, len(a.flows))
	for i, f := range a.flows {
		for _, target := range f.Way.Targets {
			last := a.bound(queue{target, mesh.Local, f.Class})
			l[i] = append(l[i], a.coming(i, target).late+last.Wait)
		}
	}
	return l
}

// bound returns the bounds of a queue: those that are there, or those that follow.
func (a *study) bound(q queue) Bound {
	b, has := a.bounds[q]
	if !has {
		b = a.follow(q)
		a.bounds[q] = b
	}
	return b
}

// follow returns the bounds of a queue that follow from the curves at its output.
func (a *study) follow(q queue) Bound {
	var higher Curve
	if q.class == 0 {
		higher = a.sum(queue{q.router, q.out, 1})
	}
	wait, places, e := Wait(a.sum(q), higher)
	if e != api.OK {
		panic(api.ErrBound)
	}
	return Bound{Router: q.router, Out: q.out, Class: q.class, Wait: wait, Places: places}
}

// sum returns the curve of all packets that enter a queue.
func (a *study) sum(q queue) Curve {
	var l []Curve
	for _, i := range a.users(q) {
		l = append(l, a.coming(i, q.router).curve)
	}
	return must(Sum(l))
}

// coming returns how a flow comes to a router of its tree.
func (a *study) coming(flow, router int) coming {
	at := spot{flow, router}
	c, has := a.comes[at]
	if !has {
		c = a.arrive(flow, router)
		a.comes[at] = c
	}
	return c
}

// arrive returns the same, computed from the queue before the router.
func (a *study) arrive(flow, router int) coming {
	f := a.flows[flow]
	if router == f.Way.Source {
		return coming{curve: f.Curve}
	}
	route := must(mesh.Route(a.mesh, f.Way.Source, router))
	from := route[len(route)-2]
	out := must(mesh.Tree(a.mesh, from, []int{router}))[from]
	before, wait := a.coming(flow, from), a.bound(queue{from, out, f.Class}).Wait
	return coming{curve: must(After(before.curve, wait)), late: before.late + wait + 1}
}

// must returns a result, or gives up, as without it there are no bounds.
func must[T any](x T, e api.Errno) T {
	if e != api.OK {
		panic(api.ErrBound)
	}
	return x
}

// caught does something, and returns the error with which it gave up, if it did.
func caught(do func()) (e api.Errno) {
	defer func() {
		if p := recover(); p != nil {
			e = p.(api.Errno)
		}
	}()
	do()
	return api.OK
}
