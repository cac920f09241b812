package calc_test

import (
	"math"
	"slices"
	"testing"

	"ganglion/api"
	"ganglion/calc"
)

// meeting is the second mesh of flows of the chapter's examples.
func meeting() []calc.Flow {
	return []calc.Flow{flow(1, 0, 0, curve(1024, 512), 2), flow(2, 1, 1, curve(1024, 256), 2)}
}

// P5.5: what is wrong with a report, in the order of errors.
func TestP5_5Verify(t *testing.T) {
	for i, x := range []struct {
		change func(r *calc.Report)
		e      api.Errno
	}{
		{func(r *calc.Report) {}, api.OK},
		// not the queues that are used, or not in their order
		{func(r *calc.Report) { r.Bounds[0].Router = 1 }, api.ErrShape},
		{func(r *calc.Report) { r.Bounds[0].Out = 2 }, api.ErrShape},
		{func(r *calc.Report) { r.Bounds[0].Class = 1 }, api.ErrShape},
		{func(r *calc.Report) { r.Bounds = r.Bounds[1:] }, api.ErrShape},
		{func(r *calc.Report) { r.Bounds = r.Bounds[:4] }, api.ErrShape},
		{func(r *calc.Report) { r.Bounds = nil }, api.ErrShape},
		{func(r *calc.Report) { r.Bounds = append(r.Bounds, r.Bounds[4]) }, api.ErrShape},
		{func(r *calc.Report) { r.Bounds = append(r.Bounds, bound(2, 1, 0, 0, 0)) }, api.ErrShape},
		{func(r *calc.Report) { r.Bounds = slices.Insert(r.Bounds, 1, bound(0, 1, 1, 0, 0)) }, api.ErrShape},
		{func(r *calc.Report) { r.Bounds[1], r.Bounds[2] = r.Bounds[2], r.Bounds[1] }, api.ErrShape},
		{func(r *calc.Report) { slices.Reverse(r.Bounds) }, api.ErrShape},
		// not the numbers of the targets
		{func(r *calc.Report) { r.Late = r.Late[1:] }, api.ErrShape},
		{func(r *calc.Report) { r.Late = append(r.Late, nil) }, api.ErrShape},
		{func(r *calc.Report) { r.Late[0] = nil }, api.ErrShape},
		{func(r *calc.Report) { r.Late[1] = []int{1, 1} }, api.ErrShape},
		{func(r *calc.Report) { r.Late, r.Bounds[0].Wait = nil, -1 }, api.ErrShape},
		// waits that are none
		{func(r *calc.Report) { r.Bounds[0].Wait, r.Late[0][0] = -1, 6 }, api.ErrBound},
		{func(r *calc.Report) { r.Bounds[0].Wait = math.MinInt }, api.ErrBound},
		{func(r *calc.Report) { r.Bounds[0].Wait = math.MaxInt }, api.ErrBound},
		{func(r *calc.Report) { r.Bounds[3].Wait, r.Late[0][0] = 1<<20, 1<<20+4 }, api.OK},
		{func(r *calc.Report) { r.Bounds[3].Wait, r.Late[0][0] = 1<<20+1, 1<<20+5 }, api.ErrBound},
		// waits behind which there is no curve any more
		{func(r *calc.Report) { r.Bounds[0].Wait, r.Late[0][0] = 1<<20, 1<<20+7 }, api.ErrBound},
		{func(r *calc.Report) { r.Bounds[0].Wait, r.Late[0][0] = 127, 134 }, api.ErrBound},
		// too little
		{func(r *calc.Report) { r.Bounds[3].Wait, r.Late[0][0] = 2, 6 }, api.ErrBound},
		{func(r *calc.Report) { r.Bounds[1].Places = 1 }, api.ErrBound},
		{func(r *calc.Report) { r.Bounds[4].Places = math.MinInt }, api.ErrBound},
		{func(r *calc.Report) { r.Late[0][0] = 6 }, api.ErrBound},
		{func(r *calc.Report) { r.Late[0][0] = 8 }, api.ErrBound},
		{func(r *calc.Report) { r.Late[1][0] = 0 }, api.ErrBound},
		// more than needed, at the end of the way
		{func(r *calc.Report) { r.Bounds[3].Wait = 9 }, api.ErrBound},
		{func(r *calc.Report) { r.Bounds[3].Wait, r.Late[0][0] = 9, 13 }, api.OK},
		{func(r *calc.Report) { r.Bounds[1].Places = math.MaxInt }, api.OK},
		{func(r *calc.Report) { r.Bounds[4].Wait, r.Late[1][0] = 5, 6 }, api.OK},
		// more before, which is more behind it
		{func(r *calc.Report) { r.Bounds[1].Wait, r.Late[0][0] = 4, 9 }, api.ErrBound},
		{func(r *calc.Report) { r.Bounds[1].Wait, r.Bounds[3].Wait, r.Late[0][0] = 4, 4, 10 }, api.ErrBound},
		{func(r *calc.Report) {
			r.Bounds[1].Wait, r.Bounds[3].Wait, r.Bounds[3].Places, r.Late[0][0] = 4, 4, 4, 10
		}, api.OK},
		{func(r *calc.Report) {
			r.Bounds[1].Wait, r.Bounds[3].Wait, r.Bounds[3].Places, r.Late[0][0] = 5, 4, 5, 11
		}, api.ErrBound},
		{func(r *calc.Report) {
			r.Bounds[1].Wait, r.Bounds[3].Wait, r.Bounds[3].Places, r.Late[0][0] = 5, 5, 5, 12
		}, api.OK},
	} {
		l := meeting()
		r, e := calc.Analyse(row, l)
		if e != api.OK {
			t.Fatal(e)
		}
		x.change(&r)
		if e := calc.Verify(row, l, r); e != x.e {
			t.Errorf("%d: Verify of %v: %d, want %d", i, r, e, x.e)
		}
	}
}

// P5.5: flows that have no bounds have no report that is accepted, whatever it states.
func TestP5_5NoBounds(t *testing.T) {
	for _, l := range [][]calc.Flow{
		{flow(1, 0, 0, curve(0, 600), 0), flow(2, 0, 0, curve(0, 600), 0)},
		{flow(1, 0, 0, curve(0, 600), 0), flow(2, 0, 0, curve(0, 400), 0), flow(3, 0, 1, curve(0, 100), 0)},
		{flow(1, 0, 0, curve(40000, 0), 0), flow(2, 0, 0, curve(40000, 0), 0)},
	} {
		r := calc.Report{Bounds: []calc.Bound{bound(0, 16, 0, 1<<20, 1<<20)}, Late: [][]int{{1 << 20}, {1 << 20}}}
		if len(l) == 3 {
			r.Bounds, r.Late = append(r.Bounds, bound(0, 16, 1, 5, 5)), append(r.Late, []int{5})
		}
		if _, e := calc.Analyse(row, l); e != api.ErrBound {
			t.Errorf("Analyse(%v): %d", l, e)
		}
		if e := calc.Verify(row, l, r); e != api.ErrBound {
			t.Errorf("Verify(%v, %v): %d", l, r, e)
		}
	}
	if e := calc.Verify(row, nil, calc.Report{}); e != api.OK {
		t.Errorf("Verify without flows: %d", e)
	}
}

// P5.5: Enough compares all Places with Room, whatever else is in the report.
func TestP5_5Enough(t *testing.T) {
	for _, x := range []struct {
		l  []calc.Bound
		is bool
	}{
		{nil, true},
		{[]calc.Bound{bound(0, 1, 0, 0, 4)}, true},
		{[]calc.Bound{bound(0, 1, 0, 0, 5)}, false},
		{[]calc.Bound{bound(0, 1, 0, 9, 4), bound(0, 1, 0, 0, 5)}, false},
		{[]calc.Bound{bound(0, 1, 0, 0, 5), bound(0, 1, 0, 0, 4)}, false},
		{[]calc.Bound{bound(-7, 77, 9, -1, math.MinInt), bound(0, 1, 0, math.MaxInt, 0)}, true},
		{[]calc.Bound{bound(0, 1, 0, 0, math.MaxInt)}, false},
	} {
		r := calc.Report{Bounds: x.l}
		if is, e := calc.Enough(row, r); is != x.is || e != api.OK {
			t.Errorf("Enough(%v): %v, %d", x.l, is, e)
		}
		for _, s := range badSpecs {
			if is, e := calc.Enough(s, r); is || e != api.ErrRange {
				t.Errorf("Enough with the mesh %v: %v, %d", s, is, e)
			}
		}
	}
}

// P5.9: Verify accepts what Analyse returns, and nothing with a Wait or Places that is less.
func TestP5_9Less(t *testing.T) {
	var g generator = 43
	waits := 0
	for range 1000 {
		x := g.analysis()
		s, l, r := x.s, x.l, x.r
		if e := calc.Verify(s, l, r); e != api.OK {
			t.Fatalf("Verify(%v, %v, %v): %d", s, l, r, e)
		}
		for i, b := range r.Bounds {
			less := cloneReport(r)
			less.Bounds[i].Places -= g.from(1, 3)
			if e := calc.Verify(s, l, less); e != api.ErrBound {
				t.Fatalf("Verify(%v, %v, %v), of %v: %d", s, l, less, r, e)
			}
			if b.Wait == 0 {
				continue
			}
			waits++
			less = cloneReport(r)
			less.Bounds[i].Wait -= g.from(1, b.Wait)
			less.Late = lateModel(s, l, stated(less.Bounds))
			if e := calc.Verify(s, l, less); e != api.ErrBound {
				t.Fatalf("Verify(%v, %v, %v), of %v: %d", s, l, less, r, e)
			}
		}
	}
	if waits < 2000 {
		t.Errorf("only %d waits were less", waits)
	}
}

// more draws a report that states more than follows from it, here and there, and that is justified; if there is one.
func (g *generator) more(x analysis) (calc.Report, bool) {
	extra := slices.Clone(x.r.Bounds)
	for i := range extra {
		extra[i].Wait, extra[i].Places = g.one(0, 0, 0, 1, 3), g.one(0, 0, 2)
	}
	last := x.r.Bounds
	for {
		bounds, ok := boundsModel(x.s, x.l, stated(last))
		if !ok {
			return calc.Report{}, false
		}
		for i := range bounds {
			bounds[i].Wait += extra[i].Wait
			bounds[i].Places += extra[i].Places
		}
		if slices.Equal(bounds, last) {
			return calc.Report{Bounds: bounds, Late: lateModel(x.s, x.l, stated(bounds))}, true
		}
		last = bounds
	}
}

// P5.5, P5.9: Verify against the definition, for reports that state more, and for some that state something else.
func TestP5_5VerifyModel(t *testing.T) {
	var g generator = 47
	good, bad, changed := 0, 0, 0
	for range 1500 {
		x := g.analysis()
		r, ok := g.more(x)
		if !ok {
			continue
		}
		if e := calc.Verify(x.s, x.l, r); e != api.OK {
			t.Fatalf("Verify(%v, %v, %v): %d", x.s, x.l, r, e)
		}
		for range 5 {
			c := cloneReport(r)
			for range g.from(1, 2) {
				b := &c.Bounds[g.below(len(c.Bounds))]
				b.Wait += g.from(-1, 2)
				b.Places += g.from(-1, 2)
			}
			if g.below(8) > 0 {
				c.Late = lateModel(x.s, x.l, stated(c.Bounds))
			}
			want := verifyModel(x.s, x.l, c)
			if e := calc.Verify(x.s, x.l, c); (e == api.OK) != want || e != api.OK && e != api.ErrBound {
				t.Fatalf("Verify(%v, %v, %v): %d, want bounds: %v", x.s, x.l, c, e, want)
			}
			if want {
				good++
				for i, b := range x.r.Bounds {
					if c.Bounds[i].Wait < b.Wait || c.Bounds[i].Places < b.Places {
						t.Fatalf("Verify(%v, %v, %v) accepts less than %v", x.s, x.l, c, x.r)
					}
				}
				if !slices.Equal(c.Bounds, r.Bounds) {
					changed++
				}
			} else {
				bad++
			}
		}
	}
	if good < 1000 || bad < 1000 || changed < 500 {
		t.Errorf("%d reports are justified, %d of them were changed; %d are not", good, changed, bad)
	}
}
