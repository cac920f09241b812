package sense_test

import (
	"cmp"
	"fmt"
	"slices"
	"strings"
	"testing"

	"ganglion/api"
	"ganglion/sense"
)

// Models of the functions, which follow the chapter word by word.

// byTick is the order of events.
func byTick(a, b api.Event) int { return cmp.Or(cmp.Compare(a.Tick, b.Tick), cmp.Compare(a.Id, b.Id)) }

// down is a / b, rounded down.
func down(a, b int) int {
	q := a / b
	if a%b != 0 && (a < 0) != (b < 0) {
		q--
	}
	return q
}

// modelWatch follows each pixel by itself.
func modelWatch(c sense.Camera, frames [][]int) []api.Event {
	var l []api.Event
	for p := range c.Wide * c.High {
		for tick := range frames {
			if tick == 0 {
				continue
			}
			remembers := frames[0][p]
			for _, x := range l {
				if x.Id == 2*p+1 {
					remembers += c.Step
				}
				if x.Id == 2*p {
					remembers -= c.Step
				}
			}
			if level := frames[tick][p]; level-remembers >= c.Step {
				l = append(l, ev(tick, 2*p+1))
			} else if remembers-level >= c.Step {
				l = append(l, ev(tick, 2*p))
			}
		}
	}
	slices.SortFunc(l, byTick)
	return l
}

// modelRebuild adds for each tick all events up to it.
func modelRebuild(c sense.Camera, first []int, l []api.Event, ticks int) [][]int {
	var out [][]int
	for tick := range ticks {
		row := slices.Clone(first)
		for _, x := range l {
			if x.Tick <= tick {
				row[x.Id/2] += (x.Id%2*2 - 1) * c.Step
			}
		}
		out = append(out, row)
	}
	return out
}

// modelClean compares each event with all others.
func modelClean(c sense.Camera, l []api.Event, window int) []api.Event {
	near := func(a, b int) bool { return -1 <= a-b && a-b <= 1 }
	var out []api.Event
	for _, x := range l {
		if slices.ContainsFunc(l, func(y api.Event) bool {
			p, q := x.Id/2, y.Id/2
			return p != q && near(p%c.Wide, q%c.Wide) && near(p/c.Wide, q/c.Wide) && y.Tick <= x.Tick && y.Tick >= x.Tick-window
		}) {
			out = append(out, x)
		}
	}
	return out
}

// modelLoudness is the loudness of each channel, in the tick t + 1 that of the tick t, and in the tick 0 that before it.
func modelLoudness(channels int, samples []int) [][]int {
	z := make([]int, channels+1)
	out := [][]int{make([]int, channels)}
	for _, x := range samples {
		for k := range z {
			half := 2
			for range k {
				half *= 2
			}
			z[k] += down(256*x-z[k], half)
		}
		var row []int
		for k := range channels {
			row = append(row, down(z[k]-z[k+1], 256))
		}
		out = append(out, row)
	}
	return out
}

func modelHear(e sense.Ear, samples []int) []api.Event {
	var l []api.Event
	loudness := modelLoudness(e.Channels, samples)
	for tick := range samples {
		for k := range e.Channels {
			before, now := loudness[tick][k], loudness[tick+1][k]
			if now >= e.Step && before < e.Step {
				l = append(l, ev(tick, 2*k+1))
			}
			if now <= -e.Step && before > -e.Step {
				l = append(l, ev(tick, 2*k))
			}
		}
	}
	return l
}

func modelFeel(w sense.Whisker, angles []int) []api.Event {
	var l []api.Event
	bent := ""
	for tick, angle := range angles {
		switch bent {
		case "":
			if angle >= w.Touch {
				l = append(l, ev(tick, 1))
				bent = "right"
			} else if angle <= -w.Touch {
				l = append(l, ev(tick, 0))
				bent = "left"
			}
		case "left":
			angle = -angle
			fallthrough
		case "right":
			if angle <= w.Touch-w.Back-1 {
				l = append(l, ev(tick, 2))
				bent = ""
			}
		}
	}
	return l
}

// numbersModel is a model, which writes numbers as texts of bits.
type numbersModel struct{ a, n int }

// bits are those of a number.
func (m *numbersModel) bits(v int) string {
	k, power := 0, 1
	for k < 24 && m.n*power < m.a {
		k++
		power *= 2
	}
	q := v / power
	m.a += v
	m.n++
	if m.n == 64 {
		m.a, m.n = m.a/2, m.n/2
	}
	switch {
	case q >= 24:
		return strings.Repeat("1", 24) + fmt.Sprintf("%031b", v)
	case k == 0:
		return strings.Repeat("1", q) + "0"
	}
	return strings.Repeat("1", q) + "0" + fmt.Sprintf("%0*b", k, v%power)
}

// sealed are the bytes with a number of events, bits and the sum.
func sealed(count int, bits string) []byte {
	b := []byte{71, 83, byte(count / 65536), byte(count / 256 % 256), byte(count % 256)}
	for ; bits != ""; bits = bits[8:] {
		if len(bits) < 8 {
			bits += strings.Repeat("0", 8-len(bits))
		}
		x := 0
		for _, c := range bits[:8] {
			x = 2*x + int(c-'0')
		}
		b = append(b, byte(x))
	}
	return summed(b...)
}

// summed are bytes, and behind them their sum.
func summed(b ...byte) []byte {
	s, t := 0, 0
	for i, x := range b {
		s += int(x)
		t += int(x) * (len(b) - i) // it is in this and all later values of S
	}
	return append(slices.Clone(b), byte(s%255), byte(t%255))
}

// modelBits are the bits of a stream.
func modelBits(l []api.Event) string {
	times, ids := &numbersModel{4, 1}, &numbersModel{4, 1}
	var bits strings.Builder
	for i, x := range l {
		gap, place := x.Tick, x.Id
		if i > 0 {
			if gap -= l[i-1].Tick; gap == 0 {
				place = x.Id - l[i-1].Id - 1
			}
		}
		bits.WriteString(times.bits(gap))
		bits.WriteString(ids.bits(place))
	}
	return bits.String()
}

func modelPack(l []api.Event) []byte { return sealed(len(l), modelBits(l)) }

// camera draws a camera with sides up to a number.
func (g *generator) camera(side int) sense.Camera {
	return sense.Camera{Wide: g.from(1, side), High: g.from(1, side), Step: g.one(1, 2, g.from(1, 128), 128)}
}

// frames draws frames, in which levels change by some number at most, or are quite new.
func (g *generator) frames(c sense.Camera, n, most int) [][]int {
	var l [][]int
	for k := range n {
		f := g.numbers(c.Wide*c.High, 0, 255)
		if k > 0 {
			for p := range f {
				f[p] = l[k-1][p] + g.one(0, 0, -most, most, g.from(-most, most))
				f[p] = min(max(f[p], 0), 255)
			}
		}
		l = append(l, f)
	}
	return l
}

// stream draws up to n events with Ids and gaps up to numbers.
func (g *generator) stream(n, most, gap int) []api.Event {
	var l []api.Event
	x := ev(g.from(0, gap), g.from(0, most))
	for range g.from(0, n) {
		l = append(l, x)
		if x.Id < most && g.below(2) == 0 {
			x.Id = g.from(x.Id+1, min(most, x.Id+g.one(1, 3, most)))
		} else {
			x = ev(x.Tick+g.one(1, g.from(1, gap)), g.from(0, most))
		}
		if x.Tick > sense.MaxTime {
			break
		}
	}
	return l
}

// P12.2: Watch against the model.
func TestP12_2ModelWatch(t *testing.T) {
	var g generator = 1
	up, down := 0, 0
	for range 300 {
		c := g.camera(5)
		frames := g.frames(c, g.from(0, 30), g.one(c.Step, 2*c.Step, g.from(1, 255), 255))
		want := modelWatch(c, frames)
		l, e := sense.Watch(c, frames)
		if e != api.OK || !slices.Equal(l, want) {
			t.Fatalf("Watch(%v, %v): %v, %d, want %v", c, frames, l, e, want)
		}
		for _, x := range l {
			if x.Id%2 == 1 {
				up++
			} else {
				down++
			}
		}
	}
	if up < 1000 || down < 1000 {
		t.Errorf("%d events up, %d events down", up, down)
	}
}

// P12.2: Rebuild and Clean against the models.
func TestP12_2ModelEvents(t *testing.T) {
	var g generator = 3
	kept, left := 0, 0
	for range 1500 {
		c := g.camera(6)
		l := g.stream(40, 2*c.Wide*c.High-1, g.one(1, 3, 30))
		window := g.one(0, 1, 2, g.from(0, 100), 100)
		want := modelClean(c, l, window)
		k, e := sense.Clean(c, l, window)
		if e != api.OK || !slices.Equal(k, want) {
			t.Fatalf("Clean(%v, %v, %d): %v, %d, want %v", c, l, window, k, e, want)
		}
		kept, left = kept+len(k), left+len(l)-len(k)
		ticks := g.one(0, 1, g.from(0, 60), 256)
		l = slices.DeleteFunc(l, func(x api.Event) bool { return x.Tick == 0 || x.Tick >= ticks })
		first := g.numbers(c.Wide*c.High, 0, 255)
		frames, e := sense.Rebuild(c, first, l, ticks)
		if e != api.OK || !same(frames, modelRebuild(c, first, l, ticks)) {
			t.Fatalf("Rebuild(%v, %v, %v, %d): %v, %d", c, first, l, ticks, frames, e)
		}
	}
	if kept < 3000 || left < 3000 {
		t.Errorf("%d events kept, %d events left out", kept, left)
	}
}

// P12.3: Hear against the model.
func TestP12_3ModelHear(t *testing.T) {
	var g generator = 5
	had := map[int]int{}
	for range 400 {
		most := g.one(1, 100, 3000, 32767, 32767)
		ear := sense.Ear{Channels: g.one(1, 16, 16, g.from(1, 16)), Step: g.from(1, max(most/g.one(1, 4, 20, 1000), 1))}
		var samples []int
		for range g.from(0, 20) {
			samples = append(samples, slices.Repeat([]int{g.from(-most, most)}, g.one(1, 2, 10, 200))...)
		}
		want := modelHear(ear, samples)
		l, e := sense.Hear(ear, samples)
		if e != api.OK || !slices.Equal(l, want) {
			t.Fatalf("Hear(%v, %v): %v, %d, want %v", ear, samples, l, e, want)
		}
		for _, x := range l {
			had[x.Id]++
		}
	}
	for id := range 32 {
		if had[id] < 5 {
			t.Errorf("only %d events with the Id %d", had[id], id)
		}
	}
}

// P12.3: Feel against the model.
func TestP12_3ModelFeel(t *testing.T) {
	var g generator = 7
	had := map[int]int{}
	for range 1000 {
		touch := g.one(1, 2, g.from(1, 20), 1000)
		w := sense.Whisker{Touch: touch, Back: g.one(0, touch, g.from(0, touch))}
		most := min(2*touch, 1000)
		angles := g.numbers(g.from(0, 60), -most, most)
		want := modelFeel(w, angles)
		l, e := sense.Feel(w, angles)
		if e != api.OK || !slices.Equal(l, want) {
			t.Fatalf("Feel(%v, %v): %v, %d, want %v", w, angles, l, e, want)
		}
		for _, x := range l {
			had[x.Id]++
		}
	}
	if had[0] < 1000 || had[1] < 1000 || had[2] < 2000 {
		t.Errorf("the events were %v", had)
	}
}

// P12.4: Pack, and the recorder, against the model.
func TestP12_4Model(t *testing.T) {
	var g generator = 9
	for range 1500 {
		l := g.stream(g.one(1, 5, 300), g.one(1, 50, 2000, 65535), g.one(1, 9, 1000, 1<<24, sense.MaxTime))
		want := modelPack(l)
		b, e := sense.Pack(l)
		if e != api.OK || !slices.Equal(b, want) {
			t.Fatalf("Pack(%v): %v, %d, want %v", l, b, e, want)
		}
		r := sense.NewRecorder()
		for _, x := range l {
			r.Add(x)
		}
		b, e = r.Bytes()
		if e != api.OK || !slices.Equal(b, want) {
			t.Fatalf("%v recorded: %v, %d, want %v", l, b, e, want)
		}
	}
}

// P12.5: Merge and Cut against models.
func TestP12_5Model(t *testing.T) {
	var g generator = 11
	both := 0
	for range 1500 {
		most, gap := g.one(1, 5, 65535), g.one(1, 5, 1<<20)
		a, b := g.stream(30, most, gap), g.stream(30, most, gap)
		all := map[api.Event]bool{}
		for _, x := range slices.Concat(a, b) {
			if all[x] {
				both++
			}
			all[x] = true
		}
		var want []api.Event
		for x := range all {
			want = append(want, x)
		}
		slices.SortFunc(want, byTick)
		l, e := sense.Merge(a, b)
		good(t, "Merge", l, e, want)
		from := g.from(-5, 30*gap)
		to := from + g.from(0, 10*gap)
		want = slices.DeleteFunc(slices.Clone(a), func(x api.Event) bool { return x.Tick < from || x.Tick > to-1 })
		l, e = sense.Cut(a, from, to)
		good(t, "Cut", l, e, want)
	}
	if both < 500 {
		t.Errorf("only %d events were in both", both)
	}
}
