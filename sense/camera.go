package sense

import (
	"iter"
	"slices"

	"ganglion/api"
)

// Watch returns the events of a camera.
func Watch(c Camera, frames [][]int) ([]api.Event, api.Errno) {
	if !c.valid() {
		return nil, api.ErrRange
	}
	if len(frames) > MaxFrames {
		return nil, api.ErrMany
	}
	for _, f := range frames {
		if e := c.checkFrame(f); e != api.OK {
			return nil, e
		}
	}
	return gather(c.watched(frames))
}

// Rebuild returns the levels that events say.
func Rebuild(c Camera, first []int, l []api.Event, ticks int) ([][]int, api.Errno) {
	if !c.valid() || !within(0, MaxFrames, ticks) {
		return nil, api.ErrRange
	}
	if e := c.checkFrame(first); e != api.OK {
		return nil, e
	}
	if e := c.checkEvents(l); e != api.OK {
		return nil, e
	}
	for _, x := range l {
		if !within(1, ticks-1, x.Tick) {
			return nil, api.ErrRange
		}
	}
	var out [][]int
	remembered := slices.Clone(first)
	for now := range ticks {
		for ; len(l) > 0 && l[0].Tick == now; l = l[1:] {
			remembered[l[0].Id/2] += c.change(l[0].Id)
		}
		out = append(out, slices.Clone(remembered))
	}
	return out, api.OK
}

// Clean leaves out events that stand alone.
func Clean(c Camera, l []api.Event, window int) ([]api.Event, api.Errno) {
	if !c.valid() {
		return nil, api.ErrRange
	}
	if e := c.checkEvents(l); e != api.OK {
		return nil, e
	}
	if !within(0, MaxWindow, window) {
		return nil, api.ErrRange
	}
	return c.supported(l, window), api.OK
}

// valid says whether a camera is as stated.
func (c Camera) valid() bool {
	return within(1, MaxSide, c.Wide, c.High) && within(1, MaxStep, c.Step)
}

// checkFrame returns the error of a frame of a valid camera.
func (c Camera) checkFrame(f []int) api.Errno {
	if len(f) != c.Wide*c.High {
		return api.ErrShape
	}
	if !within(0, MaxLevel, f...) {
		return api.ErrRange
	}
	return api.OK
}

// checkEvents returns the error of a stream that is to come from a valid camera.
func (c Camera) checkEvents(l []api.Event) api.Errno {
	if e := checkStream(l); e != api.OK {
		return e
	}
	for _, x := range l {
		if x.Id/2 >= c.Wide*c.High {
			return api.ErrRange
		}
	}
	return api.OK
}

// change returns by how much the level that a pixel remembers changes with an event.
func (c Camera) change(id int) int {
	if id%2 == 1 {
		return c.Step
	}
	return -c.Step
}

// pixels yields the numbers of all pixels.
func (c Camera) pixels() iter.Seq[int] { return c.block(0, 0, c.Wide-1, c.High-1) }

// neighbors yields the neighbors of a pixel.
func (c Camera) neighbors(p int) iter.Seq[int] {
	return func(yield func(int) bool) {
		x, y := p%c.Wide, p/c.Wide
		for q := range c.block(x-1, y-1, x+1, y+1) {
			if q != p && !yield(q) {
				return
			}
		}
	}
}

// block yields the pixels from a column and row to others, as far as there are such.
func (c Camera) block(left, top, right, bottom int) iter.Seq[int] {
	return func(yield func(int) bool) {
		for y := max(top, 0); y <= min(bottom, c.High-1); y++ {
			for x := max(left, 0); x <= min(right, c.Wide-1); x++ {
				if !yield(y*c.Wide + x) {
					return
				}
			}
		}
	}
}

// watched yields the events of a valid camera for valid frames.
func (c Camera) watched(frames [][]int) iter.Seq[api.Event] {
	return func(yield func(api.Event) bool) {
		if len(frames) == 0 {
			return
		}
		// The frame 0 does not differ from what is remembered of it, so it has no events.
		remembered := slices.Clone(frames[0])
		for now, f := range frames {
			for p := range c.pixels() {
				id := 2 * p
				switch off := f[p] - remembered[p]; {
				case off >= c.Step:
					id++
				case off > -c.Step:
					continue
				}
				remembered[p] += c.change(id)
				if !yield(api.Event{Tick: now, Id: id}) {
					return
				}
			}
		}
	}
}

// supported returns the supported ones of the events of a valid camera.
func (c Camera) supported(l []api.Event, window int) []api.Event {
	var out []api.Event
	last := map[int]int{} // the tick of the last event of a pixel
	noted := 0
	for _, x := range l {
		// Events of the same tick support each other, so all of them are noted before.
		for ; noted < len(l) && l[noted].Tick == x.Tick; noted++ {
			last[l[noted].Id/2] = x.Tick
		}
		for q := range c.neighbors(x.Id / 2) {
			if tick, has := last[q]; has && x.Tick-tick <= window {
				out = append(out, x)
				break
			}
		}
	}
	return out
}
