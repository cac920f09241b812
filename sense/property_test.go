package sense_test

import (
	"slices"
	"testing"

	"ganglion/api"
	"ganglion/sense"
)

// P12.7, G6: what is rebuilt differs from the levels by less than the step, if these change slowly.
func TestP12_7Enclosed(t *testing.T) {
	var g generator = 21
	seen, greatest := 0, 0
	for range 400 {
		c := g.camera(5)
		frames := g.frames(c, g.from(1, 60), g.one(c.Step, c.Step, g.from(0, c.Step)))
		l, e := sense.Watch(c, frames)
		if e != api.OK {
			t.Fatal(e)
		}
		seen += len(l)
		back, e := sense.Rebuild(c, frames[0], l, len(frames))
		if e != api.OK || len(back) != len(frames) {
			t.Fatalf("%d of %d frames, %d", len(back), len(frames), e)
		}
		for tick, f := range frames {
			for p, level := range f {
				off := back[tick][p] - level
				if off <= -c.Step || off >= c.Step {
					t.Fatalf("%v: the pixel %d in the tick %d: %d, rebuilt as %d", c, p, tick, level, back[tick][p])
				}
				if off == c.Step-1 || off == 1-c.Step {
					greatest++
				}
			}
		}
	}
	if seen < 10000 || greatest < 1000 {
		t.Errorf("%d events, and %d times the greatest difference", seen, greatest)
	}
}

// P12.7, G6: the same with as many pixels and frames as there can be.
func TestP12_7Greatest(t *testing.T) {
	c := sense.Camera{Wide: 32, High: 32, Step: 128}
	var frames [][]int
	for tick := range 256 {
		var f []int
		for p := range 1024 {
			f = append(f, (min(tick, 64)+p)%2*128) // still behind the tick 64, as there would be too many events
		}
		frames = append(frames, f)
	}
	l, e := sense.Watch(c, frames)
	if e != api.OK || len(l) != 65536 {
		t.Fatalf("%d events, %d", len(l), e)
	}
	back, e := sense.Rebuild(c, frames[0], l, 256)
	if e != api.OK || !same(back, frames) {
		t.Errorf("the levels, which are those that are remembered, are not rebuilt; %d", e)
	}
}

// P12.7: a camera sees nothing of a scene that does not change.
func TestP12_7Still(t *testing.T) {
	var g generator = 23
	for range 200 {
		c := g.camera(32)
		f := g.numbers(c.Wide*c.High, 0, 255)
		l, e := sense.Watch(c, slices.Repeat([][]int{f}, g.from(0, 256)))
		good(t, "a still scene", l, e, nil)
	}
}

// P12.8: an event without others of neighbors within the window is left out.
func TestP12_8Alone(t *testing.T) {
	var g generator = 25
	for range 1000 {
		c := g.camera(6)
		window := g.from(0, 100)
		l := g.stream(30, 2*c.Wide*c.High-1, g.one(3, 30))
		p := g.below(c.Wide * c.High)
		x := ev(g.from(0, 300), 2*p+g.below(2))
		// What could support it is taken out of the stream.
		l = slices.DeleteFunc(l, func(y api.Event) bool {
			q := y.Id / 2
			return q != p && max(p%c.Wide-q%c.Wide, q%c.Wide-p%c.Wide, p/c.Wide-q/c.Wide, q/c.Wide-p/c.Wide) <= 1 && x.Tick-window <= y.Tick && y.Tick <= x.Tick
		})
		l, e := sense.Merge(l, []api.Event{x})
		if e != api.OK {
			t.Fatal(e)
		}
		k, e := sense.Clean(c, l, window)
		if e != api.OK || slices.Contains(k, x) {
			t.Fatalf("Clean(%v, %v, %d): %v, %d", c, l, window, k, e)
		}
	}
}

// P12.8: what is left of a stream is left of each stream that has its events.
func TestP12_8More(t *testing.T) {
	var g generator = 27
	kept := 0
	for range 1000 {
		c := g.camera(6)
		window := g.one(0, 1, g.from(0, 100))
		a, b := g.stream(30, 2*c.Wide*c.High-1, 5), g.stream(30, 2*c.Wide*c.High-1, 5)
		l, e := sense.Merge(a, b)
		less, f := sense.Clean(c, a, window)
		more, h := sense.Clean(c, l, window)
		if e != api.OK || f != api.OK || h != api.OK {
			t.Fatal(e, f, h)
		}
		for _, x := range less {
			if !slices.Contains(more, x) {
				t.Fatalf("%v is left of %v, but not of %v", x, a, l)
			}
		}
		for _, x := range more {
			if !slices.Contains(l, x) {
				t.Fatalf("%v is left of %v", x, l)
			}
		}
		kept += len(less)
	}
	if kept < 3000 {
		t.Errorf("only %d events were left", kept)
	}
}

// before are the events before a tick.
func before(l []api.Event, tick int) []api.Event {
	return slices.DeleteFunc(slices.Clone(l), func(x api.Event) bool { return x.Tick >= tick })
}

// P12.9: what comes later does not change earlier events.
func TestP12_9Later(t *testing.T) {
	var g generator = 29
	for range 500 {
		ear := sense.Ear{Channels: g.from(1, 16), Step: g.from(1, 300)}
		samples := g.numbers(g.from(0, 40), -1000, 1000)
		all, e := sense.Hear(ear, samples)
		if e != api.OK {
			t.Fatal(e)
		}
		w := sense.Whisker{Touch: g.from(1, 1000)}
		w.Back = g.from(0, w.Touch)
		felt, e := sense.Feel(w, samples)
		if e != api.OK {
			t.Fatal(e)
		}
		k := g.from(0, len(samples))
		l, e := sense.Hear(ear, samples[:k])
		good(t, "heard", l, e, before(all, k))
		l, e = sense.Feel(w, samples[:k])
		good(t, "felt", l, e, before(felt, k))
	}
}

// P12.9: an ear does not hear samples that differ by less than the step.
func TestP12_9Quiet(t *testing.T) {
	var g generator = 31
	for range 500 {
		step := g.one(1, 2, g.from(1, 100), g.from(1, 32767), 32767)
		least := -g.from(0, step-1)
		most := least + step - 1
		var samples []int
		for len(samples) < 300 {
			samples = append(samples, slices.Repeat([]int{g.one(least, most, g.from(least, most))}, g.one(1, 3, 50))...)
		}
		l, e := sense.Hear(sense.Ear{Channels: g.from(1, 16), Step: step}, samples)
		good(t, "a quiet noise", l, e, nil)
	}
}

// P12.9: a whisker has events in turns, and does not feel small angles.
func TestP12_9Turns(t *testing.T) {
	var g generator = 33
	felt := 0
	for range 500 {
		w := sense.Whisker{Touch: g.one(1, g.from(1, 100), 1000)}
		w.Back = g.from(0, w.Touch)
		most := min(2*w.Touch, 1000)
		l, e := sense.Feel(w, g.numbers(200, -most, most))
		if e != api.OK {
			t.Fatal(e)
		}
		for k, x := range l {
			if (k%2 == 0) != (x.Id == 0 || x.Id == 1) || k%2 == 1 && x.Id != 2 {
				t.Fatalf("%v: %v", w, l)
			}
		}
		felt += len(l)
		l, e = sense.Feel(w, g.numbers(200, 1-w.Touch, w.Touch-1))
		good(t, "small angles", l, e, nil)
	}
	if felt < 10000 {
		t.Errorf("only %d events", felt)
	}
}

// anyStream draws streams of all sorts.
func (g *generator) anyStream() []api.Event {
	return g.stream(g.one(1, 2, 5, 100), g.one(1, 50, 2000, 65535), g.one(1, 9, 1000, 1<<24, sense.MaxTime))
}

// P12.10: streams without loss, and not too long.
func TestP12_10Streams(t *testing.T) {
	var g generator = 35
	for range 3000 {
		l := g.anyStream()
		b, e := sense.Pack(l)
		if e != api.OK || len(b) > 14*len(l)+8 {
			t.Fatalf("Pack(%v): %d bytes, %d", l, len(b), e)
		}
		back, e := sense.Unpack(b)
		good(t, "back", back, e, l)
	}
	// the longest bytes for one event
	b, e := sense.Pack(events(sense.MaxTime, sense.MaxId))
	if e != api.OK || len(b) != 21 {
		t.Errorf("%d bytes, %d", len(b), e)
	}
}

// P12.10: what is accepted has just these bytes, and no bytes that begin with them, and are longer, are accepted.
func TestP12_10Bytes(t *testing.T) {
	var g generator = 37
	accepted, refused := 0, 0
	for range 20000 {
		b, _ := sense.Pack(g.anyStream())
		body := slices.Clone(b[:len(b)-2])
		for range g.from(0, 2) {
			switch k := g.below(len(body)); g.below(4) {
			case 0:
				body[k] = byte(g.below(256))
			case 1:
				body[k] ^= 1 << g.below(8)
			case 2:
				body = append(body, byte(g.one(0, g.below(256))))
			case 3:
				body[4] += byte(g.one(1, 255))
			}
		}
		if g.below(8) == 0 && len(body) > 5 {
			body = body[:len(body)-1]
		}
		changed := summed(body...)
		l, e := sense.Unpack(changed)
		if e == api.OK {
			again, f := sense.Pack(l)
			good(t, "accepted", again, f, changed)
			accepted++
		} else {
			bad(t, "changed", l, e, api.ErrForm)
			refused++
		}
		var more []byte
		for range g.from(1, 4) {
			more = append(more, byte(g.one(0, g.below(256))))
		}
		l, e = sense.Unpack(summed(append(slices.Clone(b), more...)...))
		bad(t, "longer", l, e, api.ErrForm)
		if l, e = sense.Unpack(append(slices.Clone(b), more...)); e == api.OK || len(l) > 0 {
			t.Errorf("longer: %v, %d", l, e)
		}
	}
	if accepted < 5000 || refused < 5000 {
		t.Errorf("%d accepted, %d refused", accepted, refused)
	}
}

// P12.11: Merge does not depend on the order, and parts are put together again.
func TestP12_11Merged(t *testing.T) {
	var g generator = 39
	for range 1500 {
		a, b := g.anyStream(), g.anyStream()
		one, e := sense.Merge(a, b)
		other, f := sense.Merge(b, a)
		if e != api.OK || f != api.OK || !slices.Equal(one, other) {
			t.Fatalf("Merge(%v, %v): %v, %d; %v, %d", a, b, one, e, other, f)
		}
		var whole []api.Event
		for from := 0; from <= sense.MaxTime; {
			to := from + 1 + g.one(g.from(0, 5000), sense.MaxTime)
			part, e := sense.Cut(a, from, to)
			if e != api.OK {
				t.Fatal(e)
			}
			if whole, e = sense.Merge(part, whole); e != api.OK {
				t.Fatal(e)
			}
			from = to
		}
		if !slices.Equal(whole, a) {
			t.Fatalf("%v is put together as %v", a, whole)
		}
	}
	full, part := many(0, 64, 1024), events(64, 0)
	l, e := sense.Merge(full, part)
	bad(t, "too many", l, e, api.ErrMany)
	l, e = sense.Merge(part, full)
	bad(t, "too many", l, e, api.ErrMany)
}
