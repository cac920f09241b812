package calc_test

import (
	"slices"

	"ganglion/calc"
	"ganglion/mesh"
)

// keepsModel follows the definition: it counts the times in all ticks that follow one another, from all ticks on.
func keepsModel(times []int, burst, rate int) bool {
	if len(times) == 0 {
		return true
	}
	for from := times[0]; from <= times[len(times)-1]; from++ {
		for n := 1; from+n-1 <= times[len(times)-1]; n++ {
			count := 0
			for _, t := range times {
				if from <= t && t < from+n {
					count++
				}
			}
			if count > (burst+rate*n)/calc.Unit {
				return false
			}
		}
	}
	return true
}

// goesOn reports whether times that keep a curve do so with one more, which is not before them: only the ticks up to
// this one matter, and of these only those that begin with a time.
func goesOn(times []int, t int, c calc.Curve) bool {
	times = append(slices.Clone(times), t)
	for i, from := range times {
		if count := len(times) - i; count > (c.Burst+c.Rate*(t-from+1))/calc.Unit {
			return false
		}
	}
	return true
}

// shapeModel tries one tick after the other. With a rate above 0 there is room for one more packet after at most 1,024
// ticks, so that there never is if there is none by then.
func shapeModel(times []int, c calc.Curve) ([]int, bool) {
	var l []int
	for _, t := range times {
		if len(l) > 0 {
			t = max(t, l[len(l)-1])
		}
		for least := t; !goesOn(l, t, c); t++ {
			if t > least+2*calc.Unit {
				return nil, false
			}
		}
		l = append(l, t)
	}
	return l, true
}

// waitModel takes the formulas of the chapter; false stands for an output that is not loaded.
func waitModel(own, higher calc.Curve) (wait, places int, loaded bool) {
	b, r, h, s := own.Burst, own.Rate, higher.Burst, higher.Rate
	if r+s > calc.Unit || s >= calc.Unit {
		return 0, 0, false
	}
	if b+r < calc.Unit {
		return 0, 0, true
	}
	for (wait+1)*(calc.Unit-s) <= b+h+r-calc.Unit {
		wait++
	}
	for (places+1)*calc.Unit <= b+h+r+s {
		places++
	}
	return wait, places, true
}

// sent is what the output of one queue did with a packet.
type sent struct{ came, left int }

// output lets packets of two classes come to an output, and returns when they came and left, those of each class in
// order; and how many were there at most between the steps.
func output(own, higher []int) (owns, highers []sent, most [2]int) {
	var waiting [2][]int
	for now := 0; len(owns) < len(own) || len(highers) < len(higher); now++ {
		for class, times := range [][]int{own, higher} {
			for _, t := range times {
				if t == now {
					waiting[class] = append(waiting[class], t)
				}
			}
			most[class] = max(most[class], len(waiting[class]))
		}
		switch {
		case len(waiting[1]) > 0:
			highers = append(highers, sent{waiting[1][0], now})
			waiting[1] = waiting[1][1:]
		case len(waiting[0]) > 0:
			owns = append(owns, sent{waiting[0][0], now})
			waiting[0] = waiting[0][1:]
		}
	}
	return owns, highers, most
}

// hop is an output of a router.
type hop struct{ router, out int }

// queue is a hop and a class.
type queue struct {
	hop
	class int
}

// routeModel returns the outputs on a route, Local at the end.
func routeModel(s mesh.Spec, from, to int) []hop {
	var l []hop
	column, row := from%s.Wide, from/s.Wide
	step := func(out, x, y int) {
		l = append(l, hop{row*s.Wide + column, out})
		column, row = column+x, row+y
	}
	for column < to%s.Wide {
		step(mesh.East, 1, 0)
	}
	for column > to%s.Wide {
		step(mesh.West, -1, 0)
	}
	for row < to/s.Wide {
		step(mesh.North, 0, 1)
	}
	for row > to/s.Wide {
		step(mesh.South, 0, -1)
	}
	step(mesh.Local, 0, 0)
	return l
}

// curvesModel returns the curve of a flow at each output of its tree, if its copies wait as stated.
func curvesModel(s mesh.Spec, f calc.Flow, waits map[queue]int) map[hop]calc.Curve {
	curves := map[hop]calc.Curve{}
	for _, target := range f.Way.Targets {
		c := f.Curve
		for _, h := range routeModel(s, f.Way.Source, target) {
			curves[h] = c
			c.Burst += c.Rate * waits[queue{h, f.Class}]
		}
	}
	return curves
}

func isCurve(c calc.Curve) bool {
	return 0 <= c.Burst && c.Burst <= calc.MaxBurst && 0 <= c.Rate && c.Rate <= calc.Unit
}

// boundsModel returns the bounds that follow if copies wait as stated; false, if there are none.
func boundsModel(s mesh.Spec, l []calc.Flow, waits map[queue]int) ([]calc.Bound, bool) {
	sums, used, all := map[queue]calc.Curve{}, map[queue]bool{}, true
	for _, f := range l {
		for h, c := range curvesModel(s, f, waits) {
			q := queue{h, f.Class}
			used[q], all = true, all && isCurve(c)
			sums[q] = curve(sums[q].Burst+c.Burst, sums[q].Rate+c.Rate)
		}
	}
	var bounds []calc.Bound
	for router := range s.Wide * s.High {
		for _, out := range []int{1, 2, 4, 8, 16} {
			for class := range 2 {
				q, above := queue{hop{router, out}, class}, queue{hop{router, out}, 1}
				if !used[q] {
					continue
				}
				var higher calc.Curve
				if class == 0 {
					higher = sums[above]
				}
				if !isCurve(sums[q]) || !isCurve(higher) {
					return nil, false
				}
				wait, places, loaded := waitModel(sums[q], higher)
				all = all && loaded
				bounds = append(bounds, bound(router, out, class, wait, places))
			}
		}
	}
	return bounds, all
}

// stated returns the waits of bounds.
func stated(l []calc.Bound) map[queue]int {
	waits := map[queue]int{}
	for _, b := range l {
		waits[queue{hop{b.Router, b.Out}, b.Class}] = b.Wait
	}
	return waits
}

// lateModel returns what follows from waits.
func lateModel(s mesh.Spec, l []calc.Flow, waits map[queue]int) [][]int {
	var all [][]int
	for _, f := range l {
		var late []int
		for _, target := range f.Way.Targets {
			route := routeModel(s, f.Way.Source, target)
			n := len(route) - 1
			for _, h := range route {
				n += waits[queue{h, f.Class}]
			}
			late = append(late, n)
		}
		all = append(all, late)
	}
	return all
}

// analyseModel begins with no waits, and lets all bounds follow again until they stay as they are. As the waits only
// become longer on the way there, there are no bounds in the end if there are none once.
func analyseModel(s mesh.Spec, l []calc.Flow) (calc.Report, bool) {
	var last []calc.Bound
	for {
		bounds, ok := boundsModel(s, l, stated(last))
		if !ok {
			return calc.Report{}, false
		}
		if slices.Equal(bounds, last) {
			return calc.Report{Bounds: bounds, Late: lateModel(s, l, stated(bounds))}, true
		}
		last = bounds
	}
}

// verifyModel reports whether a report that has the right queues and targets is justified.
func verifyModel(s mesh.Spec, l []calc.Flow, r calc.Report) bool {
	bounds, ok := boundsModel(s, l, stated(r.Bounds))
	for i := range bounds {
		b := r.Bounds[i]
		ok = ok && 0 <= b.Wait && b.Wait <= 1<<20 && b.Wait >= bounds[i].Wait && b.Places >= bounds[i].Places
	}
	return ok && slices.EqualFunc(r.Late, lateModel(s, l, stated(r.Bounds)), slices.Equal[[]int])
}
