package calc_test

import (
	"math"
	"slices"
	"testing"

	"ganglion/api"
	"ganglion/calc"
)

// P5.3: the sum of curves; it is none if it is out of range.
func TestP5_3Sum(t *testing.T) {
	for _, x := range []struct {
		l    []calc.Curve
		want calc.Curve
		e    api.Errno
	}{
		{nil, curve(0, 0), api.OK},
		{[]calc.Curve{curve(5, 6)}, curve(5, 6), api.OK},
		{[]calc.Curve{curve(1, 2), curve(3, 4), curve(10, 20)}, curve(14, 26), api.OK},
		{[]calc.Curve{curve(65536, 1000), curve(0, 24)}, curve(65536, 1024), api.OK},
		{[]calc.Curve{curve(65536, 0), curve(1, 0)}, curve(0, 0), api.ErrRange},
		{[]calc.Curve{curve(0, 1024), curve(0, 1)}, curve(0, 0), api.ErrRange},
		{[]calc.Curve{curve(math.MaxInt, 0), curve(math.MinInt, 0)}, curve(0, 0), api.ErrRange},
		{[]calc.Curve{curve(5, 0), curve(-1, 0)}, curve(0, 0), api.ErrRange},
		{slices.Repeat([]calc.Curve{curve(64, 1)}, 1024), curve(65536, 1024), api.OK},
		{slices.Repeat([]calc.Curve{curve(64, 1)}, 1025), curve(0, 0), api.ErrRange},
	} {
		if c, e := calc.Sum(x.l); c != x.want || e != x.e {
			t.Errorf("Sum(%v): %v, %d, want %v, %d", x.l, c, e, x.want, x.e)
		}
	}
}

// P5.3: the examples of Wait, and the edges of what is loaded, and of curves with which no packet comes.
func TestP5_3Wait(t *testing.T) {
	for _, x := range []struct {
		own, higher  calc.Curve
		wait, places int
		e            api.Errno
	}{
		{curve(2048, 256), curve(0, 0), 1, 2, api.OK},
		{curve(2048, 256), curve(1024, 512), 4, 3, api.OK},
		{curve(512, 256), curve(1024, 512), 0, 0, api.OK},
		{curve(767, 256), curve(65536, 512), 0, 0, api.OK},
		{curve(768, 256), curve(1024, 512), 2, 2, api.OK},
		{curve(768, 256), curve(0, 0), 0, 1, api.OK},
		{curve(0, 0), curve(0, 0), 0, 0, api.OK},
		{curve(1024, 600), curve(0, 600), 0, 0, api.ErrBound},
		{curve(1024, 424), curve(0, 600), 1, 2, api.OK},
		{curve(1024, 425), curve(0, 600), 0, 0, api.ErrBound},
		{curve(0, 1024), curve(0, 0), 0, 1, api.OK},
		{curve(65536, 1024), curve(65536, 0), 128, 129, api.OK},
		{curve(0, 1024), curve(0, 1), 0, 0, api.ErrBound},
		{curve(0, 1), curve(0, 1023), 0, 0, api.OK},
		{curve(1023, 1), curve(0, 1023), 0, 1, api.OK},
		{curve(1023, 1), curve(1, 1023), 1, 2, api.OK},
		{curve(0, 0), curve(0, 1024), 0, 0, api.ErrBound},
		{curve(65536, 0), curve(65536, 1024), 0, 0, api.ErrBound},
		{curve(65536, 1), curve(65536, 1023), 130049, 129, api.OK},
	} {
		if w, p, e := calc.Wait(x.own, x.higher); w != x.wait || p != x.places || e != x.e {
			t.Errorf("Wait(%v, %v): %d, %d, %d, want %d, %d, %d", x.own, x.higher, w, p, e, x.wait, x.places, x.e)
		}
	}
}

// P5.3: Wait against the formulas.
func TestP5_3WaitModel(t *testing.T) {
	var g generator = 23
	loaded := 0
	for range 20000 {
		own := curve(g.one(0, 1023, 1024, g.below(4000), g.below(65537)), g.below(1025))
		higher := curve(g.one(0, 1023, 1024, g.below(4000), g.below(65537)), g.one(0, 1024-own.Rate, g.below(1025)))
		w, p, e := calc.Wait(own, higher)
		wait, places, ok := waitModel(own, higher)
		if !ok {
			wait, places = 0, 0
		}
		if (e == api.OK) != ok || e != api.OK && e != api.ErrBound || w != wait || p != places {
			t.Fatalf("Wait(%v, %v): %d, %d, %d, want %d, %d", own, higher, w, p, e, wait, places)
		}
		if ok {
			loaded++
		}
	}
	if loaded < 5000 || loaded > 18000 {
		t.Errorf("%d outputs are loaded", loaded)
	}
}

// P5.3: After, at the edges of the wait and of the burst.
func TestP5_3After(t *testing.T) {
	for _, x := range []struct {
		c    calc.Curve
		wait int
		want calc.Curve
		e    api.Errno
	}{
		{curve(1024, 256), 3, curve(1792, 256), api.OK},
		{curve(1024, 256), 0, curve(1024, 256), api.OK},
		{curve(5, 0), 1 << 20, curve(5, 0), api.OK},
		{curve(5, 0), 1<<20 + 1, curve(0, 0), api.ErrRange},
		{curve(5, 0), -1, curve(0, 0), api.ErrRange},
		{curve(5, 1), -1, curve(0, 0), api.ErrRange},
		{curve(65535, 1), 1, curve(65536, 1), api.OK},
		{curve(65536, 1), 1, curve(0, 0), api.ErrRange},
		{curve(0, 1024), 64, curve(65536, 1024), api.OK},
		{curve(0, 1024), 65, curve(0, 0), api.ErrRange},
		{curve(0, 1024), 1 << 20, curve(0, 0), api.ErrRange},
		{curve(0, 2), math.MaxInt, curve(0, 0), api.ErrRange},
		{curve(0, 2), math.MinInt, curve(0, 0), api.ErrRange},
	} {
		if c, e := calc.After(x.c, x.wait); c != x.want || e != x.e {
			t.Errorf("After(%v, %d): %v, %d, want %v, %d", x.c, x.wait, c, e, x.want, x.e)
		}
	}
}

// loaded draws curves of a class and of the higher one at an output that is loaded.
func (g *generator) loaded() (own, higher calc.Curve) {
	own = g.curve(g.one(0, 2000, 6000), 1024)
	if g.below(4) > 0 {
		higher = g.curve(g.one(0, 2000, 6000), min(1024-own.Rate, 1023))
	}
	return own, higher
}

// arriving draws times that keep a curve: as early as they can, or now and then.
func (g *generator) arriving(t *testing.T, c calc.Curve, n, ticks int) []int {
	t.Helper()
	if c.Burst+c.Rate < calc.Unit {
		return nil
	}
	times := g.times(n, g.one(1, ticks))
	if c.Rate == 0 {
		times = times[:min(n, c.Burst/calc.Unit)]
	}
	times = shape(t, times, c)
	for len(times) > 0 && times[len(times)-1] > api.MaxTicks {
		times = times[:len(times)-1]
	}
	if !keeps(t, times, c) {
		t.Fatalf("%v do not keep %v", times, c)
	}
	return times
}

// P5.7: no packet waits longer than Wait says, not more are there, and when they are sent they keep the curve of After.
func TestP5_7OneOutput(t *testing.T) {
	var g generator = 29
	longest, fullest, tight := 0, 0, 0
	for range 3000 {
		own, higher := g.loaded()
		w, places := wait(t, own, higher)
		highWait, highPlaces := wait(t, higher, curve(0, 0))
		owns, highers, most := output(g.arriving(t, own, 40, 60), g.arriving(t, higher, 40, 60))
		if most[0] > places || most[1] > highPlaces {
			t.Fatalf("%v beside %v: %v packets, want at most %d, %d", own, higher, most, places, highPlaces)
		}
		for k, x := range []struct {
			l    []sent
			c    calc.Curve
			wait int
		}{{owns, own, w}, {highers, higher, highWait}} {
			var left []int
			for _, p := range x.l {
				if p.left-p.came > x.wait {
					t.Fatalf("%v beside %v: a packet of %d waits from %d to %d, want at most %d", own, higher, k, p.came, p.left, x.wait)
				}
				left = append(left, p.left)
				if k == 0 && p.left-p.came == x.wait {
					longest++
				}
			}
			if len(left) > 0 && burst(t, left, x.c.Rate) > x.c.Burst {
				tight++
			}
			if !keepsWide(left, x.c.Burst+x.c.Rate*x.wait, x.c.Rate) {
				t.Fatalf("%v beside %v: sent at %v, which do not keep what is behind", own, higher, left)
			}
			if a, e := calc.After(x.c, x.wait); e == api.OK && !keeps(t, left, a) {
				t.Fatalf("%v beside %v: sent at %v, which do not keep %v", own, higher, left, a)
			}
		}
		if most[0] == places {
			fullest++
		}
	}
	if longest < 2000 || fullest < 500 || tight < 200 {
		t.Errorf("%d waits as long as they can be, %d queues as full, %d curves that are not kept behind", longest, fullest, tight)
	}
}

// keepsWide is goesOn for all times, for bursts that can be above MaxBurst.
func keepsWide(times []int, burst, rate int) bool {
	for i, t := range times {
		if !goesOn(times[:i], t, curve(burst, rate)) {
			return false
		}
	}
	return true
}

// P5.7: the flows of a class keep, each for itself, its curve behind the queue of their sum.
func TestP5_7Flows(t *testing.T) {
	var g generator = 31
	bigger := 0
	for range 2000 {
		one, two := g.curve(2000, 400), g.curve(2000, 400)
		higher := g.curve(2000, 200)
		w, places := wait(t, sum(t, one, two), higher)
		first, second := g.arriving(t, one, 20, 40), g.arriving(t, two, 20, 40)
		all := slices.Concat(first, second)
		slices.Sort(all)
		owns, _, most := output(all, g.arriving(t, higher, 20, 40))
		if most[0] > places {
			t.Fatalf("%v and %v beside %v: %d packets, want at most %d", one, two, higher, most[0], places)
		}
		// Of those that came in one tick, the packets of the first flow may be the first ones.
		var left []int
		for _, came := range first {
			i := slices.IndexFunc(owns, func(p sent) bool { return p.came == came })
			left = append(left, owns[i].left)
			owns = slices.Delete(owns, i, i+1)
		}
		if !keeps(t, left, after(t, one, w)) {
			t.Fatalf("%v and %v beside %v: the first one sends at %v", one, two, higher, left)
		}
		if !keeps(t, left, one) {
			bigger++
		}
	}
	if bigger < 100 {
		t.Errorf("only %d flows do not keep their curve behind the queue", bigger)
	}
}
