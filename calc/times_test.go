package calc_test

import (
	"slices"
	"testing"

	"ganglion/api"
	"ganglion/calc"
)

// P5.2: the examples, and their edges.
func TestP5_2Examples(t *testing.T) {
	for _, x := range []struct {
		times []int
		c     calc.Curve
		keeps bool
		burst int
		shape []int // nil: ErrBound, if there are times
	}{
		{[]int{0, 0, 3}, curve(2048, 0), false, 3072, nil},
		{[]int{0, 0, 3}, curve(1024, 512), false, 1536, []int{0, 1, 3}},
		{[]int{0, 0, 3}, curve(1535, 512), false, 1536, []int{0, 1, 3}},
		{[]int{0, 0, 3}, curve(1536, 512), true, 1536, []int{0, 0, 3}},
		{[]int{0, 2, 4}, curve(512, 512), true, 512, []int{0, 2, 4}},
		{[]int{0, 0, 0}, curve(512, 512), false, 2560, []int{0, 2, 4}},
		{[]int{0, 0, 0}, curve(511, 512), false, 2560, nil},
		{[]int{4, 4}, curve(1024, 0), false, 2048, nil},
		{[]int{4, 4}, curve(2048, 0), true, 2048, []int{4, 4}},
		{[]int{4, 4}, curve(2047, 0), false, 2048, nil},
		{[]int{4, 4}, curve(2047, 1), true, 2047, []int{4, 4}},
		{[]int{4}, curve(1024, 0), true, 1024, []int{4}},
		{[]int{4}, curve(0, 1024), true, 0, []int{4}},
		{[]int{4, 5, 6, 6, 6, 9}, curve(0, 1024), false, 2048, []int{4, 5, 6, 7, 8, 9}},
		{[]int{10000, 10000}, curve(1023, 1), false, 2047, []int{10000, 11024}},
		{[]int{0, 0, 0, 5000}, curve(3000, 72), true, 3000, []int{0, 0, 0, 5000}},
		{[]int{0, 0, 0, 5000, 5000, 5000}, curve(3000, 71), false, 3001, []int{0, 0, 1, 5000, 5000, 5001}},
		{nil, curve(0, 0), true, 0, nil},
		{nil, curve(65536, 1024), true, 0, nil},
	} {
		if is := keeps(t, x.times, x.c); is != x.keeps {
			t.Errorf("Keeps(%v, %v): %v", x.times, x.c, is)
		}
		if b := burst(t, x.times, x.c.Rate); b != x.burst {
			t.Errorf("Burst(%v, %d): %d, want %d", x.times, x.c.Rate, b, x.burst)
		}
		want := api.OK
		if x.shape == nil && x.times != nil {
			want = api.ErrBound
		}
		if l, e := calc.Shape(x.times, x.c); e != want || !slices.Equal(l, x.shape) {
			t.Errorf("Shape(%v, %v): %v, %d, want %v, %d", x.times, x.c, l, e, x.shape, want)
		}
	}
}

// P5.2: the errors of times; the first time with an error decides, and of its errors the range.
func TestP5_2Errors(t *testing.T) {
	long := make([]int, calc.MaxTimes+1)
	long[0] = -1
	for _, x := range []struct {
		times []int
		e     api.Errno
	}{
		{make([]int, calc.MaxTimes), api.OK},
		{make([]int, calc.MaxTimes+1), api.ErrMany},
		{long, api.ErrMany},
		{[]int{0, api.MaxTicks, api.MaxTicks}, api.OK},
		{[]int{api.MaxTicks + 1}, api.ErrRange},
		{[]int{-1}, api.ErrRange},
		{[]int{5, -1}, api.ErrRange},
		{[]int{1, 0}, api.ErrArg},
		{[]int{3, 4, 4, 3}, api.ErrArg},
		{[]int{1, 0, -1}, api.ErrArg},
		{[]int{1, -1, 0}, api.ErrRange},
	} {
		if is, e := calc.Keeps(x.times, curve(65536, 1024)); e != x.e || is != (e == api.OK && len(x.times) < 65) {
			t.Errorf("Keeps(%v): %v, %d, want %d", x.times, is, e, x.e)
		}
		if b, e := calc.Burst(x.times, 0); e != x.e || e != api.OK && b != 0 {
			t.Errorf("Burst(%v): %d, %d, want %d", x.times, b, e, x.e)
		}
		// The times are examined before the curve is too low.
		want := x.e
		if want == api.OK {
			want = api.ErrBound
		}
		if l, e := calc.Shape(x.times, curve(1023, 0)); e != want || len(l) > 0 {
			t.Errorf("Shape(%v): %v, %d, want %d", x.times, l, e, want)
		}
	}
}

// P5.2: Burst examines the rate before the times.
func TestP5_2Rate(t *testing.T) {
	for _, rate := range edges {
		want := api.OK
		if rate < 0 || rate > 1024 {
			want = api.ErrRange
		}
		if _, e := calc.Burst([]int{0}, rate); e != want {
			t.Errorf("Burst with the rate %d: %d, want %d", rate, e, want)
		}
		if want != api.OK {
			if _, e := calc.Burst(make([]int, calc.MaxTimes+1), rate); e != want {
				t.Errorf("Burst of many times with the rate %d: %d, want %d", rate, e, want)
			}
		}
	}
}

// P5.2, P5.6: Keeps and Burst against the definition: the burst suffices, and none that is less.
func TestP5_6Keeps(t *testing.T) {
	var g generator = 11
	kept, broken := 0, 0
	for range 4000 {
		times := g.times(g.below(9), g.from(1, 25))
		rate := g.one(0, 1, 100, 511, 512, 700, 1023, 1024, g.below(1025))
		least := burst(t, times, rate)
		if least < 0 || !keepsModel(times, least, rate) || least > 0 && keepsModel(times, least-1, rate) {
			t.Fatalf("Burst(%v, %d): %d", times, rate, least)
		}
		for _, b := range []int{least - 1, least, least + 1, g.below(6000)} {
			if b < 0 {
				continue
			}
			is := keeps(t, times, curve(b, rate))
			if is != keepsModel(times, b, rate) {
				t.Fatalf("Keeps(%v, (%d, %d)): %v", times, b, rate, is)
			}
			if is {
				kept++
			} else {
				broken++
			}
		}
	}
	if kept < 4000 || broken < 4000 {
		t.Errorf("%d curves are kept, %d are not", kept, broken)
	}
}

// P5.2: Shape against the definition, which tries one tick after the other.
func TestP5_2ShapeModel(t *testing.T) {
	var g generator = 13
	none, later := 0, 0
	for range 4000 {
		times := g.times(g.from(1, 9), g.from(1, 40))
		c := g.curve(g.one(0, 1023, 3000, 6000), 1024)
		if g.below(6) == 0 {
			c.Rate = 0
		}
		l, e := calc.Shape(times, c)
		want, ok := shapeModel(times, c)
		if (e == api.OK) != ok || e != api.OK && e != api.ErrBound || !slices.Equal(l, want) {
			t.Fatalf("Shape(%v, %v): %v, %d, want %v", times, c, l, e, want)
		}
		if !ok {
			none++
		} else if !slices.Equal(l, times) {
			later++
		}
	}
	if none < 300 || later < 1000 {
		t.Errorf("%d without times, %d with others", none, later)
	}
}

// P5.6: shaped times keep the curve, none is earlier, and those that keep it stay as they are.
func TestP5_6Shape(t *testing.T) {
	var g generator = 17
	for range 3000 {
		times := g.times(g.from(1, 200), g.one(10, 300, 4000))
		c := g.curve(g.one(0, 3000, 20000), 1024)
		c.Rate = max(c.Rate, 100)
		l := shape(t, times, c)
		if !slices.IsSorted(l) {
			t.Fatalf("Shape(%v, %v): %v", times, c, l)
		}
		for i := range l {
			if l[i] < times[i] || !goesOn(l[:i], l[i], c) {
				t.Fatalf("Shape(%v, %v): %v", times, c, l)
			}
		}
		if l[len(l)-1] <= api.MaxTicks && !keeps(t, l, c) {
			t.Fatalf("Shape(%v, %v): %v, which do not keep it", times, c, l)
		}
		if same := slices.Equal(l, times); same != keeps(t, times, c) {
			t.Fatalf("Shape(%v, %v): %v, the same: %v", times, c, l, same)
		}
	}
}

// P5.6: no other times that keep the curve, and are not before the given ones, have an earlier one at any place.
func TestP5_6Earliest(t *testing.T) {
	var g generator = 19
	others := 0
	for range 20000 {
		times := g.times(g.from(1, 6), 8)
		c := g.curve(g.one(0, 1500, 2500), 1024)
		c.Rate = max(c.Rate, 200)
		l := shape(t, times, c)
		other := slices.Clone(times)
		for i := range other {
			other[i] += g.one(0, 0, 1, 2, g.below(12))
		}
		slices.Sort(other)
		if !keepsModel(other, c.Burst, c.Rate) {
			continue
		}
		others++
		for i := range other {
			if other[i] < l[i] {
				t.Fatalf("Shape(%v, %v): %v, but %v keep it, too", times, c, l, other)
			}
		}
	}
	if others < 5000 {
		t.Errorf("only %d other times keep the curve", others)
	}
}
