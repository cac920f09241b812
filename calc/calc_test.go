package calc_test

import (
	"math"
	"slices"
	"testing"

	"ganglion/api"
	"ganglion/calc"
	"ganglion/mesh"
)

// edges are numbers at and around all bounds, and the greatest ones of all.
var edges = []int{0, 1, -1, 2, 3, 9, 512, calc.Unit - 1, calc.Unit, calc.Unit + 1, api.MaxTicks, api.MaxTicks + 1, calc.MaxBurst - 1, calc.MaxBurst, calc.MaxBurst + 1, 1 << 20, 1<<20 + 1, math.MaxInt, math.MinInt, math.MaxInt - 1, math.MinInt + 1}

// badCurves are curves that are not valid.
var badCurves = []calc.Curve{{Burst: -1}, {Rate: -1}, {Burst: calc.MaxBurst + 1}, {Rate: calc.Unit + 1}, {Burst: math.MaxInt}, {Burst: math.MinInt}, {Rate: math.MaxInt}, {Rate: math.MinInt}, {Burst: math.MaxInt, Rate: math.MinInt}}

// badSpecs are meshes that are not valid.
var badSpecs = []mesh.Spec{{}, {Wide: 9, High: 1, Room: 1}, {Wide: 1, High: 0, Room: 1}, {Wide: 1, High: 1, Room: 65}, {Wide: math.MaxInt, High: math.MaxInt, Room: 1}}

// row is the mesh of the chapter's examples, and eight the greatest one.
var (
	row   = mesh.Spec{Wide: 3, High: 1, Room: 4}
	eight = mesh.Spec{Wide: 8, High: 8, Room: 64}
)

func curve(burst, rate int) calc.Curve { return calc.Curve{Burst: burst, Rate: rate} }

func flow(key, source, class int, c calc.Curve, targets ...int) calc.Flow {
	return calc.Flow{Way: mesh.Way{Key: key, Source: source, Targets: targets}, Class: class, Curve: c}
}

func bound(router, out, class, wait, places int) calc.Bound {
	return calc.Bound{Router: router, Out: out, Class: class, Wait: wait, Places: places}
}

func sameReport(a, b calc.Report) bool {
	return slices.Equal(a.Bounds, b.Bounds) && slices.EqualFunc(a.Late, b.Late, slices.Equal[[]int])
}

func cloneReport(r calc.Report) calc.Report {
	c := calc.Report{Bounds: slices.Clone(r.Bounds)}
	for _, l := range r.Late {
		c.Late = append(c.Late, slices.Clone(l))
	}
	return c
}

func cloneFlows(l []calc.Flow) []calc.Flow {
	l = slices.Clone(l)
	for i := range l {
		l[i].Way.Targets = slices.Clone(l[i].Way.Targets)
	}
	return l
}

func sameFlows(a, b []calc.Flow) bool {
	return slices.EqualFunc(a, b, func(x, y calc.Flow) bool {
		same := x.Way.Key == y.Way.Key && x.Way.Source == y.Way.Source && slices.Equal(x.Way.Targets, y.Way.Targets)
		return same && x.Class == y.Class && x.Curve == y.Curve
	})
}

// keeps, burst, shape, wait, after and sum are the functions for arguments that are known to be valid.
func keeps(t *testing.T, times []int, c calc.Curve) bool {
	t.Helper()
	is, e := calc.Keeps(times, c)
	if e != api.OK {
		t.Fatalf("Keeps(%v, %v): the error %d", times, c, e)
	}
	return is
}

func burst(t *testing.T, times []int, rate int) int {
	t.Helper()
	b, e := calc.Burst(times, rate)
	if e != api.OK {
		t.Fatalf("Burst(%v, %d): the error %d", times, rate, e)
	}
	return b
}

func shape(t *testing.T, times []int, c calc.Curve) []int {
	t.Helper()
	l, e := calc.Shape(times, c)
	if e != api.OK || len(l) != len(times) {
		t.Fatalf("Shape(%v, %v): %v, the error %d", times, c, l, e)
	}
	return l
}

func wait(t *testing.T, own, higher calc.Curve) (int, int) {
	t.Helper()
	w, places, e := calc.Wait(own, higher)
	if e != api.OK {
		t.Fatalf("Wait(%v, %v): the error %d", own, higher, e)
	}
	return w, places
}

func after(t *testing.T, c calc.Curve, wait int) calc.Curve {
	t.Helper()
	k, e := calc.After(c, wait)
	if e != api.OK {
		t.Fatalf("After(%v, %d): the error %d", c, wait, e)
	}
	return k
}

func sum(t *testing.T, l ...calc.Curve) calc.Curve {
	t.Helper()
	c, e := calc.Sum(l)
	if e != api.OK {
		t.Fatalf("Sum(%v): the error %d", l, e)
	}
	return c
}

// generator is the generator of the document, so that every run of the tests has the same cases.
type generator uint64

func (g *generator) below(n int) int {
	*g = *g*6364136223846793005 + 1442695040888963407
	return int(uint64(*g) >> 33 % uint64(n))
}

func (g *generator) from(least, most int) int { return least + g.below(most-least+1) }

func (g *generator) one(l ...int) int { return l[g.below(len(l))] }

// times draws so many times below a tick.
func (g *generator) times(n, ticks int) []int {
	var l []int
	for range n {
		l = append(l, g.below(ticks))
	}
	slices.Sort(l)
	return l
}

// curve draws a curve with which packets can come.
func (g *generator) curve(burst, rate int) calc.Curve {
	c := curve(g.below(burst+1), g.below(rate+1))
	if g.below(2) == 0 {
		c.Rate = g.one(0, 1, 256, 512, 1023, 1024) * rate / calc.Unit
	}
	c.Burst = max(c.Burst, calc.Unit-c.Rate)
	return c
}

// spec draws a mesh whose sides are at most so long.
func (g *generator) spec(side int) mesh.Spec {
	return mesh.Spec{Wide: g.from(1, side), High: g.from(1, side), Room: mesh.MaxRoom}
}

// flows draws so many flows, whose rates together are not much above what an output sends.
func (g *generator) flows(s mesh.Spec, n int) []calc.Flow {
	var l []calc.Flow
	for i := range n {
		f := flow(n*g.below(50)+i, g.below(s.Wide*s.High), g.below(2), g.curve(g.one(0, 1500, 4000), min(calc.Unit, 1200/n)))
		for range g.from(1, 4) {
			f.Way.Targets = append(f.Way.Targets, g.below(s.Wide*s.High))
		}
		l = append(l, f)
	}
	return l
}

// analysis is flows on a mesh that have bounds.
type analysis struct {
	s mesh.Spec
	l []calc.Flow
	r calc.Report
}

func (g *generator) analysis() analysis {
	for {
		s := g.spec(5)
		l := g.flows(s, g.from(1, 7))
		if r, e := calc.Analyse(s, l); e == api.OK {
			return analysis{s, l, r}
		}
	}
}

// P5.1: Check returns ErrRange exactly if Burst or Rate is out of range.
func TestP5_1Check(t *testing.T) {
	for _, b := range edges {
		for _, r := range edges {
			want := api.OK
			if b < 0 || b > 65536 || r < 0 || r > 1024 {
				want = api.ErrRange
			}
			if e := calc.Check(curve(b, r)); e != want {
				t.Errorf("Check of (%d, %d): %d, want %d", b, r, e, want)
			}
		}
	}
}

// P5.1: the other functions return the error of Check before any other one.
func TestP5_1First(t *testing.T) {
	good := curve(1024, 512)
	for _, c := range badCurves {
		for _, times := range [][]int{nil, {0}, {1, 0}, make([]int, calc.MaxTimes+1)} {
			if is, e := calc.Keeps(times, c); is || e != api.ErrRange {
				t.Errorf("Keeps(%v): %v, %d", c, is, e)
			}
			if l, e := calc.Shape(times, c); len(l) > 0 || e != api.ErrRange {
				t.Errorf("Shape(%v): %v, %d", c, l, e)
			}
		}
		for _, l := range [][]calc.Curve{{c}, {good, c}, {c, good}} {
			if x, e := calc.Sum(l); x != (calc.Curve{}) || e != api.ErrRange {
				t.Errorf("Sum(%v): %v, %d", l, x, e)
			}
		}
		// Beside a higher class with this rate no output is loaded; the curve is examined before.
		for _, l := range [][2]calc.Curve{{c, good}, {good, c}, {c, curve(0, 1024)}} {
			if w, p, e := calc.Wait(l[0], l[1]); w != 0 || p != 0 || e != api.ErrRange {
				t.Errorf("Wait(%v): %d, %d, %d", l, w, p, e)
			}
		}
		for _, w := range []int{0, 5, -1} {
			if x, e := calc.After(c, w); x != (calc.Curve{}) || e != api.ErrRange {
				t.Errorf("After(%v, %d): %v, %d", c, w, x, e)
			}
		}
	}
}

// P0, R2, R4: whatever the numbers are, every function returns, has nothing with an error, and changes no argument.
func TestP0AnyNumbers(t *testing.T) {
	var g generator = 3
	any := func() int { return g.one(edges...) }
	good := map[string]int{}
	note := func(name string, e api.Errno, zero bool) {
		if e == api.OK {
			good[name]++
		} else if !zero {
			t.Errorf("%s: a result with the error %d", name, e)
		}
	}
	for range 20000 {
		times := g.times(g.below(4), 9)
		if g.below(4) == 0 {
			times = append(times, any())
		}
		before := slices.Clone(times)
		is, e := calc.Keeps(times, curve(any(), any()))
		note("Keeps", e, !is)
		b, e := calc.Burst(times, any())
		note("Burst", e, b == 0)
		l, e := calc.Shape(times, curve(any(), any()))
		note("Shape", e, len(l) == 0)
		if !slices.Equal(times, before) {
			t.Errorf("the times were %v, are %v", before, times)
		}
		curves := []calc.Curve{curve(any(), any()), curve(any(), any())}[:g.below(3)]
		c, e := calc.Sum(curves)
		note("Sum", e, c == calc.Curve{})
		w, p, e := calc.Wait(curve(any(), any()), curve(any(), any()))
		note("Wait", e, w == 0 && p == 0)
		c, e = calc.After(curve(any(), any()), any())
		note("After", e, c == calc.Curve{})
	}
	for _, name := range []string{"Keeps", "Burst", "Shape", "Sum", "Wait", "After"} {
		if good[name] < 300 {
			t.Errorf("%s: only %d without errors", name, good[name])
		}
	}
}

// P0, R2, R4: the same for the functions with flows.
func TestP0AnyFlows(t *testing.T) {
	var g generator = 5
	any := func() int { return g.one(edges...) }
	good, bad := 0, 0
	for range 6000 {
		s := g.spec(3)
		if g.below(20) == 0 {
			s = mesh.Spec{Wide: any(), High: any(), Room: any()}
		}
		l := []calc.Flow{flow(1, 0, g.below(2), curve(1024, 300), 0), flow(2, 0, g.below(2), curve(2000, 500), 0)}
		f := &l[g.below(2)]
		if field := g.below(8); field < 6 {
			*[]*int{&f.Way.Key, &f.Way.Source, &f.Way.Targets[0], &f.Class, &f.Curve.Burst, &f.Curve.Rate}[field] = any()
		}
		before := cloneFlows(l)
		r, e := calc.Analyse(s, l)
		if e != api.OK && !sameReport(r, calc.Report{}) {
			t.Errorf("Analyse(%v, %v): %v with the error %d", s, l, r, e)
		}
		if e == api.OK {
			good++
		} else {
			bad++
		}
		if len(r.Bounds) > 0 {
			b := &r.Bounds[g.below(len(r.Bounds))]
			*[]*int{&b.Router, &b.Out, &b.Class, &b.Wait, &b.Places, &r.Late[g.below(2)][0]}[g.below(6)] = any()
		}
		stated := cloneReport(r)
		calc.Verify(s, l, r)
		if is, e := calc.Enough(s, r); is && e != api.OK {
			t.Errorf("Enough(%v, %v): true with the error %d", s, r, e)
		}
		if !sameFlows(l, before) || !sameReport(r, stated) {
			t.Errorf("the arguments were changed: %v, %v, were %v, %v", l, r, before, stated)
		}
	}
	if good < 1000 || bad < 1000 {
		t.Errorf("%d flows with bounds, %d without", good, bad)
	}
}

// P0, P5.2, P5.4: the greatest arguments.
func TestP0Greatest(t *testing.T) {
	times := make([]int, calc.MaxTimes)
	l := shape(t, times, curve(1023, 1))
	if last := l[len(l)-1]; last != 1023*1024 || burst(t, times, 0) != 1024*1024 {
		t.Errorf("the last time of Shape is %d; Burst %d", last, burst(t, times, 0))
	}
	var flows []calc.Flow
	for i := range calc.MaxFlows {
		f := flow(i, i, i%2, curve(17, 0))
		for target := range 64 {
			f.Way.Targets = append(f.Way.Targets, target)
		}
		flows = append(flows, f)
	}
	r, e := calc.Analyse(eight, flows)
	if want := 2 * (4*7*8 + 64); e != api.OK || len(r.Bounds) < want*3/4 || len(r.Bounds) > want {
		t.Errorf("Analyse: %d bounds, the error %d", len(r.Bounds), e)
	}
	if e := calc.Verify(eight, flows, r); e != api.OK {
		t.Errorf("Verify: %d", e)
	}
}

// R4: results share no memory.
func TestP0OwnMemory(t *testing.T) {
	times, targets := []int{0, 1, 2}, []int{2, 0}
	l := shape(t, times, curve(4096, 0))
	l[0] = 9
	f := []calc.Flow{flow(1, 0, 0, curve(1024, 512), targets...)}
	r, e := calc.Analyse(row, f)
	again, _ := calc.Analyse(row, f)
	if e != api.OK || len(r.Bounds) == 0 || len(r.Late) == 0 {
		t.Fatalf("Analyse: %v, %d", r, e)
	}
	r.Bounds[0].Wait, r.Late[0][0], r.Late[0][1] = 7, 7, 7
	if times[0] != 0 || targets[0] != 2 || targets[1] != 0 || again.Bounds[0].Wait != 0 || again.Late[0][0] != 2 {
		t.Errorf("changing results changes %v, %v, %v", times, targets, again)
	}
}
