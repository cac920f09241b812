package calc_test

import (
	"slices"
	"testing"

	"ganglion/api"
	"ganglion/calc"
	"ganglion/mesh"
)

// P5.4: the examples, trees in all directions, and flows that meet.
func TestP5_4Examples(t *testing.T) {
	square, column := mesh.Spec{Wide: 2, High: 2, Room: 2}, mesh.Spec{Wide: 1, High: 3, Room: 1}
	one, other := flow(1, 0, 0, curve(1024, 512), 2), flow(2, 1, 1, curve(1024, 256), 2)
	low := other
	low.Class = 0
	for _, x := range []struct {
		s    mesh.Spec
		l    []calc.Flow
		want calc.Report
	}{
		{row, nil, calc.Report{}},
		{row, []calc.Flow{one}, calc.Report{
			Bounds: []calc.Bound{bound(0, 1, 0, 0, 1), bound(1, 1, 0, 0, 1), bound(2, 16, 0, 0, 1)},
			Late:   [][]int{{2}},
		}},
		{row, []calc.Flow{one, other}, calc.Report{
			Bounds: []calc.Bound{bound(0, 1, 0, 0, 1), bound(1, 1, 0, 2, 2), bound(1, 1, 1, 0, 1), bound(2, 16, 0, 3, 3), bound(2, 16, 1, 0, 1)},
			Late:   [][]int{{7}, {1}},
		}},
		{row, []calc.Flow{other, one}, calc.Report{
			Bounds: []calc.Bound{bound(0, 1, 0, 0, 1), bound(1, 1, 0, 2, 2), bound(1, 1, 1, 0, 1), bound(2, 16, 0, 3, 3), bound(2, 16, 1, 0, 1)},
			Late:   [][]int{{1}, {7}},
		}},
		{row, []calc.Flow{one, low}, calc.Report{
			Bounds: []calc.Bound{bound(0, 1, 0, 0, 1), bound(1, 1, 0, 1, 2), bound(2, 16, 0, 2, 3)},
			Late:   [][]int{{5}, {4}},
		}},
		// With these curves no packet comes, so that nothing waits; but the queues are used.
		{row, []calc.Flow{flow(1, 0, 0, curve(500, 523), 2), other}, calc.Report{
			Bounds: []calc.Bound{bound(0, 1, 0, 0, 0), bound(1, 1, 0, 0, 0), bound(1, 1, 1, 0, 1), bound(2, 16, 0, 0, 0), bound(2, 16, 1, 0, 1)},
			Late:   [][]int{{2}, {1}},
		}},
		// A target that is listed twice has two numbers.
		{square, []calc.Flow{flow(1, 0, 0, curve(1024, 0), 3, 1, 3), flow(2, 1, 0, curve(2048, 0), 3)}, calc.Report{
			Bounds: []calc.Bound{bound(0, 1, 0, 0, 1), bound(1, 2, 0, 2, 3), bound(1, 16, 0, 0, 1), bound(3, 16, 0, 2, 3)},
			Late:   [][]int{{6, 1, 6}, {5}},
		}},
		{square, []calc.Flow{flow(9, 3, 1, curve(1024, 1024), 0, 3)}, calc.Report{
			Bounds: []calc.Bound{bound(0, 16, 1, 4, 5), bound(2, 8, 1, 2, 3), bound(3, 4, 1, 1, 2), bound(3, 16, 1, 1, 2)},
			Late:   [][]int{{9, 1}},
		}},
		{column, []calc.Flow{flow(5, 2, 1, curve(1024, 0), 0, 2)}, calc.Report{
			Bounds: []calc.Bound{bound(0, 16, 1, 0, 1), bound(1, 8, 1, 0, 1), bound(2, 8, 1, 0, 1), bound(2, 16, 1, 0, 1)},
			Late:   [][]int{{2, 0}},
		}},
		{column, []calc.Flow{flow(5, 0, 0, curve(2048, 512), 2)}, calc.Report{
			Bounds: []calc.Bound{bound(0, 2, 0, 1, 2), bound(1, 2, 0, 2, 3), bound(2, 16, 0, 3, 4)},
			Late:   [][]int{{8}},
		}},
	} {
		r, e := calc.Analyse(x.s, x.l)
		if e != api.OK || !sameReport(r, x.want) {
			t.Errorf("Analyse(%v, %v): %v, %d, want %v", x.s, x.l, r, e, x.want)
		}
	}
}

// P5.1, P5.4, P5.5: the errors of meshes and flows, which Verify has, too, in their order.
func TestP5_4Errors(t *testing.T) {
	good, none := curve(1024, 100), curve(0, 1025)
	many := make([]calc.Flow, calc.MaxFlows+1)
	for _, x := range []struct {
		l []calc.Flow
		e api.Errno
	}{
		{many, api.ErrMany},
		{[]calc.Flow{flow(-1, 0, 0, good, 1)}, api.ErrRange},
		{[]calc.Flow{flow(mesh.MaxKey+1, 0, 0, good, 1)}, api.ErrRange},
		{[]calc.Flow{flow(1, 0, 0, good, 1), flow(1, 2, 0, good, 1)}, api.ErrHave},
		{[]calc.Flow{flow(1, 3, 0, good, 1)}, api.ErrNone},
		{[]calc.Flow{flow(1, 0, 0, good, -1)}, api.ErrNone},
		{[]calc.Flow{flow(1, 0, 0, good)}, api.ErrArg},
		{[]calc.Flow{flow(1, 0, 2, good, 1)}, api.ErrArg},
		{[]calc.Flow{flow(1, 0, -1, good, 1)}, api.ErrArg},
		{[]calc.Flow{flow(1, 0, 0, none, 1)}, api.ErrRange},
		// Of a flow the class is examined first; all ways are examined before all classes and curves.
		{[]calc.Flow{flow(1, 0, 2, none, 1)}, api.ErrArg},
		{[]calc.Flow{flow(1, 0, 0, none, 1), flow(2, 0, 2, good, 1)}, api.ErrRange},
		{[]calc.Flow{flow(1, 0, 2, good, 1), flow(2, 0, 0, none, 1)}, api.ErrArg},
		{[]calc.Flow{flow(1, 0, 2, good, 1), flow(2, 0, 0, good, 3)}, api.ErrNone},
		{[]calc.Flow{flow(1, 0, 0, none, 1), flow(2, 0, 0, good)}, api.ErrArg},
		// A flow with an error counts more than an output that is not loaded.
		{[]calc.Flow{flow(1, 0, 0, curve(0, 1024), 1), flow(2, 0, 0, curve(0, 1024), 1), flow(3, 0, 2, good, 1)}, api.ErrArg},
	} {
		if r, e := calc.Analyse(row, x.l); e != x.e || !sameReport(r, calc.Report{}) {
			t.Errorf("Analyse(%v): %v, %d, want %d", x.l, r, e, x.e)
		}
		for _, r := range []calc.Report{{}, {Bounds: []calc.Bound{bound(0, 1, 0, -1, 0)}}} {
			if e := calc.Verify(row, x.l, r); e != x.e {
				t.Errorf("Verify(%v): %d, want %d", x.l, e, x.e)
			}
		}
		for _, s := range badSpecs {
			r, e := calc.Analyse(s, x.l)
			if f := calc.Verify(s, x.l, r); e != api.ErrRange || f != api.ErrRange {
				t.Errorf("Analyse and Verify with the mesh %v: %d, %d", s, e, f)
			}
		}
	}
}

// P5.4: ErrBound where an output is not loaded, or something at it is no curve; and how far it can go without.
func TestP5_4Bound(t *testing.T) {
	wide := mesh.Spec{Wide: 8, High: 1, Room: 64}
	for _, x := range []struct {
		l  []calc.Flow
		ok bool
	}{
		// the rates at one output
		{[]calc.Flow{flow(1, 0, 0, curve(0, 512), 2), flow(2, 1, 0, curve(0, 512), 2)}, true},
		{[]calc.Flow{flow(1, 0, 0, curve(0, 512), 2), flow(2, 1, 0, curve(0, 513), 2)}, false},
		{[]calc.Flow{flow(1, 0, 0, curve(0, 512), 2), flow(2, 1, 1, curve(0, 512), 2)}, true},
		{[]calc.Flow{flow(1, 0, 0, curve(0, 512), 2), flow(2, 1, 1, curve(0, 513), 2)}, false},
		{[]calc.Flow{flow(1, 0, 0, curve(0, 512), 2), flow(2, 3, 0, curve(0, 513), 2)}, false},
		{[]calc.Flow{flow(1, 0, 0, curve(0, 512), 2), flow(2, 3, 0, curve(0, 513), 1)}, true},
		{[]calc.Flow{flow(1, 0, 1, curve(0, 1024), 2)}, true},
		{[]calc.Flow{flow(1, 0, 1, curve(0, 1024), 2), flow(2, 1, 0, curve(0, 0), 2)}, false},
		{[]calc.Flow{flow(1, 0, 1, curve(0, 1023), 2), flow(2, 1, 0, curve(0, 0), 2)}, true},
		// the sum of bursts of a class, which is not that of both
		{[]calc.Flow{flow(1, 0, 0, curve(65535, 0), 1), flow(2, 0, 0, curve(1, 0), 1)}, true},
		{[]calc.Flow{flow(1, 0, 0, curve(65535, 0), 1), flow(2, 0, 0, curve(2, 0), 1)}, false},
		{[]calc.Flow{flow(1, 0, 1, curve(65535, 0), 1), flow(2, 0, 1, curve(2, 0), 1)}, false},
		{[]calc.Flow{flow(1, 0, 1, curve(65536, 0), 1), flow(2, 0, 0, curve(65536, 0), 1)}, true},
		// the curve of a flow behind its first queue, where it waits for 62 ticks: at the next output it counts
		{[]calc.Flow{flow(1, 0, 0, curve(65530, 1), 0)}, true},
		{[]calc.Flow{flow(1, 0, 0, curve(65474, 1), 1)}, true},
		{[]calc.Flow{flow(1, 0, 0, curve(65475, 1), 1)}, false},
	} {
		r, e := calc.Analyse(wide, x.l)
		if x.ok && e != api.OK || !x.ok && (e != api.ErrBound || !sameReport(r, calc.Report{})) {
			t.Errorf("Analyse(%v): %v, %d, want bounds: %v", x.l, r, e, x.ok)
		}
	}
}

// P5.4: Analyse against the definitions: all bounds follow again until they stay as they are.
func TestP5_4Model(t *testing.T) {
	var g generator = 37
	good, bad := 0, 0
	for range 3000 {
		s := g.spec(6)
		l := g.flows(s, g.from(1, 12))
		for i := range l {
			if g.below(8) == 0 {
				l[i].Curve = curve(g.below(60000), g.below(1025))
			}
		}
		r, e := calc.Analyse(s, l)
		want, ok := analyseModel(s, l)
		if (e == api.OK) != ok || e != api.OK && e != api.ErrBound || !sameReport(r, want) {
			t.Fatalf("Analyse(%v, %v): %v, %d, want %v, %v", s, l, r, e, want, ok)
		}
		if ok {
			good++
		} else {
			bad++
		}
	}
	if good < 500 || bad < 500 {
		t.Errorf("%d have bounds, %d have none", good, bad)
	}
}

// P5.4: the order of the flows changes that of Late only.
func TestP5_4Order(t *testing.T) {
	var g generator = 41
	for range 300 {
		x := g.analysis()
		s, l, r := x.s, x.l, x.r
		slices.Reverse(l)
		slices.Reverse(r.Late)
		if again, e := calc.Analyse(s, l); e != api.OK || !sameReport(again, r) {
			t.Fatalf("Analyse(%v, %v): %v, %d, want %v", s, l, again, e, r)
		}
	}
}
