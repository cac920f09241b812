package sense_test

import (
	"math"
	"slices"
	"testing"

	"ganglion/api"
	"ganglion/sense"
)

// generator is the one of the document.
type generator uint64

func (g *generator) below(n int) int {
	*g = *g*6364136223846793005 + 1442695040888963407
	return int(uint64(*g)>>33) % n
}

func (g *generator) from(least, most int) int { return least + g.below(most-least+1) }

func (g *generator) one(l ...int) int { return l[g.below(len(l))] }

// numbers are n numbers from least to most.
func (g *generator) numbers(n, least, most int) []int {
	var l []int
	for range n {
		l = append(l, g.from(least, most))
	}
	return l
}

func ev(tick, id int) api.Event { return api.Event{Tick: tick, Id: id} }

// events makes a list of events from their ticks and Ids.
func events(l ...int) []api.Event {
	var out []api.Event
	for i := 0; i < len(l); i += 2 {
		out = append(out, ev(l[i], l[i+1]))
	}
	return out
}

// same says whether frames are the same.
func same(a, b [][]int) bool { return slices.EqualFunc(a, b, slices.Equal[[]int]) }

// edges are numbers at the bounds of what functions allow, and far outside.
var edges = []int{math.MinInt, math.MinInt + 1, -1 << 32, -32768, -32767, -1001, -1000, -2, -1, 0, 1, 2, 16, 17, 32, 33, 100, 101, 128, 129, 255, 256, 257, 1000, 1001, 4096, 4097, 32767, 32768, 65535, 65536, 65537, sense.MaxTime, sense.MaxTime + 1, 1 << 31, 1 << 32, math.MaxInt - 1, math.MaxInt}

// faulty are all of the edges that are not from least to most.
func faulty(least, most int) []int {
	return slices.DeleteFunc(slices.Clone(edges), func(x int) bool { return least <= x && x <= most })
}

// bad checks that a list came with an error, and without elements.
func bad[T any](t *testing.T, what string, l []T, e, want api.Errno) {
	t.Helper()
	if e != want || len(l) != 0 {
		t.Errorf("%s: %v, %d, want the error %d", what, l, e, want)
	}
}

// good checks a list that came without an error.
func good[T comparable](t *testing.T, what string, l []T, e api.Errno, want []T) {
	t.Helper()
	if e != api.OK || !slices.Equal(l, want) {
		t.Errorf("%s: %v, %d, want %v", what, l, e, want)
	}
}

// large is a camera with the most pixels, small one with two pixels in a row, nine one with three rows and columns.
var (
	large = sense.Camera{Wide: 32, High: 32, Step: 10}
	small = sense.Camera{Wide: 2, High: 1, Step: 10}
	nine  = sense.Camera{Wide: 3, High: 3, Step: 1}
)

// many are the events with the Ids 0 and so on, n in each tick from the first one on.
func many(first, ticks, n int) []api.Event {
	var l []api.Event
	for tick := range ticks {
		for id := range n {
			l = append(l, ev(first+tick, id))
		}
	}
	return l
}

// streams are lists of events with their errors.
var streams = []struct {
	what string
	l    []api.Event
	e    api.Errno
}{
	{"none", nil, api.OK},
	{"the least event", events(0, 0), api.OK},
	{"the greatest event", events(sense.MaxTime, sense.MaxId), api.OK},
	{"one tick", events(3, 0, 3, 1, 3, 2), api.OK},
	{"a less Id in a later tick", events(3, 9, 4, 0), api.OK},
	{"as many as there can be", many(0, 64, 1024), api.OK},
	{"one more", append(many(0, 64, 1024), ev(64, 0)), api.ErrMany},
	{"too many, before other errors", make([]api.Event, 65537), api.ErrMany},
	{"too many, before a Tick", append(events(-1, 0), many(0, 64, 1024)...), api.ErrMany},
	{"a Tick below 0", events(-1, 0), api.ErrRange},
	{"a Tick too great", events(0, 0, 1<<30+1, 0), api.ErrRange},
	{"the least Tick", events(math.MinInt, 0), api.ErrRange},
	{"the greatest Tick", events(math.MaxInt, 0), api.ErrRange},
	{"an Id below 0", events(0, -1), api.ErrRange},
	{"an Id too great", events(0, 65536), api.ErrRange},
	{"the least Id", events(0, math.MinInt), api.ErrRange},
	{"the greatest Id", events(0, math.MaxInt), api.ErrRange},
	{"an event twice", events(1, 1, 1, 1), api.ErrArg},
	{"a less Id", events(1, 1, 1, 0), api.ErrArg},
	{"a less Tick", events(2, 1, 1, 2), api.ErrArg},
	{"not in order behind an earlier one alone", events(1, 1, 3, 0, 2, 0), api.ErrArg},
	{"both of one event", events(1, 1, 1, -1), api.ErrRange},
	{"first not in order", events(1, 1, 1, 0, -1, 0), api.ErrArg},
	{"first out of range", events(1, -1, 0, 0), api.ErrRange},
	{"the last one of many", append(many(0, 64, 1023), ev(63, 0)), api.ErrArg},
}

// P12.1: the error of a stream, from all functions that have one.
func TestP12_1Streams(t *testing.T) {
	one := sense.Camera{Wide: 1, High: 1, Step: 1}
	for _, x := range streams {
		b, e := sense.Pack(x.l)
		if e != x.e || (e == api.OK) == (len(b) == 0) {
			t.Errorf("%s: Pack: %v, %d, want the error %d", x.what, b, e, x.e)
		}
		l, e := sense.Merge(x.l, nil)
		if e != x.e || e == api.OK && !slices.Equal(l, x.l) || e != api.OK && len(l) > 0 {
			t.Errorf("%s: Merge with none: %d events, %d, want the error %d", x.what, len(l), e, x.e)
		}
		l, e = sense.Merge(nil, x.l)
		if e != x.e || e == api.OK && !slices.Equal(l, x.l) || e != api.OK && len(l) > 0 {
			t.Errorf("%s: Merge behind none: %d events, %d, want the error %d", x.what, len(l), e, x.e)
		}
		l, e = sense.Cut(x.l, 0, math.MaxInt)
		if e != x.e || e == api.OK && !slices.Equal(l, x.l) || e != api.OK && len(l) > 0 {
			t.Errorf("%s: Cut: %d events, %d, want the error %d", x.what, len(l), e, x.e)
		}
		if x.e == api.OK {
			continue
		}
		// An Id of no pixel, a Tick of no frame and a window are errors that come later.
		l, e = sense.Clean(one, x.l, -1)
		bad(t, x.what+": Clean", l, e, x.e)
		f, e := sense.Rebuild(one, []int{0}, x.l, 0)
		bad(t, x.what+": Rebuild", f, e, x.e)
		l, e = sense.Cut(x.l, 1, 0)
		bad(t, x.what+": Cut", l, e, x.e)
		l, e = sense.Merge(x.l, events(0, -1, 2, 2))
		bad(t, x.what+": Merge", l, e, x.e)
	}
}

// P12.2: each function with a camera that is not as stated.
func TestP12_2Cameras(t *testing.T) {
	var cameras []sense.Camera
	for _, k := range faulty(1, 32) {
		cameras = append(cameras, sense.Camera{Wide: k, High: 1, Step: 1}, sense.Camera{Wide: 1, High: k, Step: 1})
	}
	for _, k := range faulty(1, 128) {
		cameras = append(cameras, sense.Camera{Wide: 1, High: 1, Step: k})
	}
	for _, c := range cameras {
		l, e := sense.Watch(c, make([][]int, 257))
		bad(t, "Watch", l, e, api.ErrRange)
		l, e = sense.Clean(c, make([]api.Event, 65537), 0)
		bad(t, "Clean", l, e, api.ErrRange)
		f, e := sense.Rebuild(c, nil, make([]api.Event, 65537), 1)
		bad(t, "Rebuild", f, e, api.ErrRange)
	}
	for _, c := range []sense.Camera{{Wide: 1, High: 1, Step: 1}, {Wide: 32, High: 1, Step: 128}, {Wide: 1, High: 32, Step: 1}} {
		l, e := sense.Watch(c, [][]int{make([]int, c.Wide*c.High)})
		good(t, "Watch", l, e, nil)
	}
}

// P12.2: what a camera sees.
func TestP12_2Watch(t *testing.T) {
	for _, x := range []struct {
		what   string
		c      sense.Camera
		frames [][]int
		want   []api.Event
	}{
		{"the example", small, [][]int{{50, 50}, {60, 45}, {85, 40}, {85, 40}}, events(1, 1, 2, 1, 2, 2, 3, 1)},
		{"no frames", small, nil, nil},
		{"one frame", small, [][]int{{0, 255}}, nil},
		{"just less than the step", small, [][]int{{50, 50}, {59, 41}}, nil},
		{"just the step", small, [][]int{{50, 50}, {60, 40}}, events(1, 1, 1, 2)},
		{"one event in a tick, and more in the next ones", small, [][]int{{0, 255}, {30, 225}, {30, 225}, {30, 225}, {30, 225}}, events(1, 1, 1, 2, 2, 1, 2, 2, 3, 1, 3, 2)},
		{"what is remembered counts, not the frame before", small, [][]int{{50, 0}, {55, 0}, {60, 0}, {65, 0}, {51, 0}, {50, 0}}, events(2, 1, 5, 0)},
		{"the greatest step", sense.Camera{Wide: 1, High: 1, Step: 128}, [][]int{{0}, {127}, {128}, {255}, {0}, {0}}, events(2, 1, 4, 0)},
		{"rows", sense.Camera{Wide: 2, High: 2, Step: 1}, [][]int{{5, 5, 5, 5}, {5, 6, 4, 5}, {5, 6, 4, 6}}, events(1, 3, 1, 4, 2, 7)},
	} {
		l, e := sense.Watch(x.c, x.frames)
		good(t, x.what, l, e, x.want)
	}
}

// flicker are frames of the large camera in which the first pixels flicker.
func flicker(frames, pixels int) [][]int {
	var l [][]int
	for k := range frames {
		f := make([]int, 1024)
		for p := range pixels {
			f[p] = k % 2 * 10
		}
		l = append(l, f)
	}
	return l
}

// P12.2: the errors of Watch.
func TestP12_2WatchErrors(t *testing.T) {
	for _, x := range []struct {
		what   string
		frames [][]int
		e      api.Errno
	}{
		{"too many", make([][]int, 257), api.ErrMany},
		{"no levels", [][]int{{}}, api.ErrShape},
		{"too few levels", [][]int{{0, 0}, {0}}, api.ErrShape},
		{"too many levels", [][]int{{0, 0}, {0, 0, 0}}, api.ErrShape},
		{"a level below 0", [][]int{{-1, 0}}, api.ErrRange},
		{"a level too great", [][]int{{0, 256}}, api.ErrRange},
		{"the least level", [][]int{{0, 0}, {0, math.MinInt}}, api.ErrRange},
		{"the greatest level", [][]int{{0, 0}, {math.MaxInt, 0}}, api.ErrRange},
		{"both of one frame", [][]int{{-1}}, api.ErrShape},
		{"first a level", [][]int{{0, -1}, {0}}, api.ErrRange},
		{"first too few levels", [][]int{{0}, {0, -1}}, api.ErrShape},
	} {
		l, e := sense.Watch(small, x.frames)
		bad(t, x.what, l, e, x.e)
	}
	l, e := sense.Watch(small, slices.Repeat([][]int{{1, 2}}, 256))
	good(t, "as many frames as there can be", l, e, nil)
	l, e = sense.Watch(large, flicker(65, 1024))
	if e != api.OK || len(l) != 65536 || l[65535] != ev(64, 2046) {
		t.Errorf("as many events as there can be: %d, %d", len(l), e)
	}
	l, e = sense.Watch(large, append(flicker(65, 1024), flicker(2, 1)[1]))
	bad(t, "one more event", l, e, api.ErrMany)
	l, e = sense.Watch(large, flicker(256, 1024))
	bad(t, "far too many events", l, e, api.ErrMany)
	l, e = sense.Watch(large, append(flicker(66, 1024), nil))
	bad(t, "a frame without levels behind too many events", l, e, api.ErrShape)
}

// P12.2: what events say.
func TestP12_2Rebuild(t *testing.T) {
	for _, x := range []struct {
		what  string
		first []int
		l     []api.Event
		ticks int
		want  [][]int
	}{
		{"the example", []int{50, 50}, events(1, 1, 2, 1, 2, 2, 3, 1), 4, [][]int{{50, 50}, {60, 50}, {70, 40}, {80, 40}}},
		{"no ticks", []int{50, 50}, nil, 0, nil},
		{"one tick", []int{0, 255}, nil, 1, [][]int{{0, 255}}},
		{"below 0, and above the greatest level", []int{0, 255}, events(1, 0, 1, 3), 2, [][]int{{0, 255}, {-10, 265}}},
		{"both events of a pixel in a tick", []int{7, 7}, events(1, 0, 1, 1, 1, 3), 2, [][]int{{7, 7}, {7, 17}}},
		{"ticks without events", []int{7, 7}, events(2, 1), 4, [][]int{{7, 7}, {7, 7}, {17, 7}, {17, 7}}},
	} {
		f, e := sense.Rebuild(small, x.first, x.l, x.ticks)
		if e != api.OK || !same(f, x.want) {
			t.Errorf("%s: %v, %d, want %v", x.what, f, e, x.want)
		}
	}
	var fall []api.Event
	for tick := range 255 {
		fall = append(fall, ev(1+tick, 0))
	}
	f, e := sense.Rebuild(sense.Camera{Wide: 1, High: 1, Step: 128}, []int{0}, fall, 256)
	if e != api.OK || len(f) != 256 || f[255][0] != -255*128 {
		t.Errorf("the longest fall: %d frames, %d", len(f), e)
	}
}

// P12.2: the errors of Rebuild.
func TestP12_2RebuildErrors(t *testing.T) {
	for _, k := range faulty(0, 256) {
		f, e := sense.Rebuild(small, nil, events(-1, -1), k)
		bad(t, "ticks", f, e, api.ErrRange)
	}
	for _, x := range []struct {
		what  string
		first []int
		l     []api.Event
		ticks int
		e     api.Errno
	}{
		{"no levels", nil, nil, 0, api.ErrShape},
		{"too few levels", []int{0}, events(0, -1), 1, api.ErrShape},
		{"too many levels", []int{0, 0, -1}, nil, 1, api.ErrShape},
		{"a level below 0", []int{0, -1}, events(1, 0, 1, 0), 1, api.ErrRange},
		{"a level too great", []int{256, 0}, events(1, 0, 1, 0), 1, api.ErrRange},
		{"the stream before an Id", []int{0, 0}, events(1, 4, 1, 4), 2, api.ErrArg},
		{"the stream before a Tick", []int{0, 0}, events(0, 0, 0, 0), 2, api.ErrArg},
		{"an Id of no pixel", []int{0, 0}, events(1, 4), 2, api.ErrRange},
		{"the greatest Id", []int{0, 0}, events(1, 65535), 2, api.ErrRange},
		{"the Tick 0", []int{0, 0}, events(0, 0), 2, api.ErrRange},
		{"a Tick that is not below ticks", []int{0, 0}, events(1, 0, 2, 0), 2, api.ErrRange},
		{"the greatest Tick", []int{0, 0}, events(sense.MaxTime, 0), 256, api.ErrRange},
		{"an event without ticks", []int{0, 0}, events(0, 0), 0, api.ErrRange},
	} {
		f, e := sense.Rebuild(small, x.first, x.l, x.ticks)
		bad(t, x.what, f, e, x.e)
	}
}

// P12.2: which events are supported.
func TestP12_2Clean(t *testing.T) {
	strip := sense.Camera{Wide: 5, High: 1, Step: 1}
	for _, x := range []struct {
		what   string
		c      sense.Camera
		l      []api.Event
		window int
		want   []api.Event
	}{
		{"the example", small, events(1, 1, 2, 1, 2, 2, 3, 1), 0, events(2, 1, 2, 2)},
		{"the example, a greater window", small, events(1, 1, 2, 1, 2, 2, 3, 1), 1, events(2, 1, 2, 2, 3, 1)},
		{"no events", small, nil, 100, nil},
		{"alone", small, events(0, 0), 100, nil},
		{"the same pixel", small, events(1, 0, 1, 1, 2, 0), 100, nil},
		{"just within the window", small, events(5, 0, 105, 2), 100, events(105, 2)},
		{"just behind the window", small, events(5, 0, 106, 2), 100, nil},
		{"all of the same tick", strip, events(0, 0, 0, 2, 0, 4), 0, events(0, 0, 0, 2, 0, 4)},
		{"not by later ticks", strip, events(0, 0, 1, 2), 100, events(1, 2)},
		{"two columns away", strip, events(0, 0, 0, 4, 0, 5), 0, nil},
		{"by an event that is not supported itself", strip, events(0, 0, 3, 2, 6, 4), 3, events(3, 2, 6, 4)},
		{"by an event before the last one", strip, events(0, 2, 1, 3, 2, 0), 1, events(2, 0)},
		{"in corners, too", nine, events(1, 0, 1, 8, 1, 16), 0, events(1, 0, 1, 8, 1, 16)},
		{"not around the right edge", nine, events(5, 4, 5, 6), 0, nil},
		{"not around the lower edge", nine, events(5, 2, 5, 14), 0, nil},
		{"a row below", nine, events(5, 2, 5, 8), 0, events(5, 2, 5, 8)},
		{"the greatest ticks", small, events(sense.MaxTime-1, 3, sense.MaxTime, 0), 1, events(sense.MaxTime, 0)},
	} {
		l, e := sense.Clean(x.c, x.l, x.window)
		good(t, x.what, l, e, x.want)
	}
	// each pixel is a neighbor of the one in the middle, but not that one itself
	for p := range 9 {
		var want []api.Event
		if p != 4 {
			want = events(1, 9)
		}
		l, e := sense.Clean(nine, events(0, 2*p, 1, 9), 1)
		good(t, "around the middle", l, e, want)
	}
}

// P12.2: the errors of Clean.
func TestP12_2CleanErrors(t *testing.T) {
	for _, k := range faulty(0, 100) {
		l, e := sense.Clean(small, nil, k)
		bad(t, "window", l, e, api.ErrRange)
	}
	for _, k := range []int{4, 5, 65535} {
		l, e := sense.Clean(small, events(0, 0, 0, 2, 0, k), 0)
		bad(t, "an Id of no pixel", l, e, api.ErrRange)
	}
	l, e := sense.Clean(large, events(0, 2045, 0, 2047), 0)
	good(t, "the greatest Id", l, e, events(0, 2045, 0, 2047))
	l, e = sense.Clean(large, events(0, 2048), 0)
	bad(t, "an Id behind the greatest one", l, e, api.ErrRange)
}

// P12.3: what an ear hears.
func TestP12_3Hear(t *testing.T) {
	samples := []int{800, 800, 0, 0, 0, 0} // the loudness of the first channel is 200, 250, 37, -47, -73, -74
	for _, x := range []struct {
		what     string
		channels int
		step     int
		samples  []int
		want     []api.Event
	}{
		{"the example", 1, 70, samples[:5], events(0, 1, 4, 0)},
		{"no samples", 16, 1, nil, nil},
		{"silence", 16, 1, make([]int, 4096), nil},
		{"just as loud", 1, 200, samples, events(0, 1)},
		{"just louder than at first", 1, 201, samples, events(1, 1)},
		{"just as loud as ever", 1, 250, samples, events(1, 1)},
		{"louder than ever", 1, 251, samples, nil},
		{"loud only once while it is", 1, 37, samples, events(0, 1, 3, 0)},
		{"just as low as ever", 1, 74, samples, events(0, 1, 5, 0)},
		{"lower than ever", 1, 75, samples, events(0, 1)},
		{"loud again", 1, 100, []int{800, 0, 0, 0, 0, 800}, events(0, 1, 5, 1)},
		{"low at once", 1, 70, []int{-800, -800, 0, 0}, events(0, 0)},
		{"from low to loud in a tick", 1, 100, []int{-800, 800}, events(0, 0, 1, 1)},
		{"rounded down", 1, 1, []int{-1}, events(0, 0)},
		{"not rounded up", 1, 1, []int{1}, nil},
		{"a second channel", 2, 100, []int{800}, events(0, 1, 0, 3)},
		{"a second channel that is less loud", 2, 101, []int{800}, events(0, 1)},
		{"the greatest sample", 1, 8191, []int{32767}, events(0, 1)},
		{"the least sample", 1, 8192, []int{-32767}, events(0, 0)},
	} {
		l, e := sense.Hear(sense.Ear{Channels: x.channels, Step: x.step}, x.samples)
		good(t, x.what, l, e, x.want)
	}
}

// P12.3: the errors of Hear.
func TestP12_3HearErrors(t *testing.T) {
	for _, k := range faulty(1, 16) {
		l, e := sense.Hear(sense.Ear{Channels: k, Step: 1}, make([]int, 4097))
		bad(t, "channels", l, e, api.ErrRange)
	}
	for _, k := range faulty(1, 32767) {
		l, e := sense.Hear(sense.Ear{Channels: 1, Step: k}, make([]int, 4097))
		bad(t, "step", l, e, api.ErrRange)
	}
	for _, k := range faulty(-32767, 32767) {
		l, e := sense.Hear(sense.Ear{Channels: 1, Step: 1}, []int{900, k})
		bad(t, "sample", l, e, api.ErrRange)
		l, e = sense.Hear(sense.Ear{Channels: 1, Step: 1}, append(make([]int, 4096), k))
		bad(t, "too many samples", l, e, api.ErrMany)
	}
	l, e := sense.Hear(sense.Ear{Channels: 16, Step: 32767}, slices.Repeat([]int{-32767, 32767}, 2048))
	good(t, "as many samples as there can be", l, e, nil)
}

// P12.3: what a whisker feels.
func TestP12_3Feel(t *testing.T) {
	for _, x := range []struct {
		what        string
		touch, back int
		angles      []int
		want        []api.Event
	}{
		{"the example", 10, 3, []int{9, 10, 8, 7, 6, -10, 5}, events(1, 1, 4, 2, 5, 0, 6, 2)},
		{"to the left", 10, 3, []int{-9, -10, -8, -7, -6, 10, 7, 6}, events(1, 0, 4, 2, 5, 1, 7, 2)},
		{"from one side to the other", 10, 3, []int{-10, 10, -10, -10}, events(0, 0, 1, 2, 2, 0)},
		{"no angles", 10, 3, nil, nil},
		{"never far enough", 10, 0, []int{9, -9, 0, 9}, nil},
		{"back at once", 10, 0, []int{10, 10, 9, 10}, events(0, 1, 2, 2, 3, 1)},
		{"back as far as can be", 5, 5, []int{5, 0, -1, -5, 0, 1}, events(0, 1, 2, 2, 3, 0, 5, 2)},
		{"the least touch", 1, 1, []int{1, 0, -1, -1, 1}, events(0, 1, 2, 2, 3, 0, 4, 2)},
		{"the greatest touch", 1000, 0, []int{999, 1000, 999, -1000}, events(1, 1, 2, 2, 3, 0)},
	} {
		l, e := sense.Feel(sense.Whisker{Touch: x.touch, Back: x.back}, x.angles)
		good(t, x.what, l, e, x.want)
	}
}

// P12.3: the errors of Feel.
func TestP12_3FeelErrors(t *testing.T) {
	for _, k := range faulty(1, 1000) {
		l, e := sense.Feel(sense.Whisker{Touch: k}, make([]int, 4097))
		bad(t, "touch", l, e, api.ErrRange)
		l, e = sense.Feel(sense.Whisker{Touch: k, Back: k}, make([]int, 4097))
		bad(t, "touch and back", l, e, api.ErrRange)
	}
	for _, k := range faulty(0, 100) {
		l, e := sense.Feel(sense.Whisker{Touch: 100, Back: k}, make([]int, 4097))
		bad(t, "back", l, e, api.ErrRange)
	}
	for _, k := range faulty(-1000, 1000) {
		l, e := sense.Feel(sense.Whisker{Touch: 1}, []int{1, k})
		bad(t, "angle", l, e, api.ErrRange)
		l, e = sense.Feel(sense.Whisker{Touch: 1}, append(make([]int, 4096), k))
		bad(t, "too many angles", l, e, api.ErrMany)
	}
	l, e := sense.Feel(sense.Whisker{Touch: 1}, slices.Repeat([]int{-1000, 1000}, 2048))
	if e != api.OK || len(l) != 4096 {
		t.Errorf("as many angles as there can be: %d, %d", len(l), e)
	}
}

// P12.5: streams that are put together.
func TestP12_5Merge(t *testing.T) {
	for _, x := range []struct {
		what       string
		a, b, want []api.Event
	}{
		{"the example", events(1, 1, 2, 0), events(1, 0, 2, 0), events(1, 0, 1, 1, 2, 0)},
		{"none", nil, nil, nil},
		{"the same", events(1, 1, 2, 0), events(1, 1, 2, 0), events(1, 1, 2, 0)},
		{"one behind the other", events(5, 0, 6, 9), events(1, 7, 5, 1), events(1, 7, 5, 0, 5, 1, 6, 9)},
		{"the same twice", many(0, 64, 1024), many(0, 64, 1024), many(0, 64, 1024)},
		{"as many as there can be", many(0, 40, 1024), many(30, 34, 1024), many(0, 64, 1024)},
	} {
		l, e := sense.Merge(x.a, x.b)
		good(t, x.what, l, e, x.want)
	}
	l, e := sense.Merge(many(0, 64, 1024), events(63, 1023, 63, 1024))
	bad(t, "one event too many", l, e, api.ErrMany)
	l, e = sense.Merge(events(1, 1, 1, 1), make([]api.Event, 65537))
	bad(t, "both are none", l, e, api.ErrArg)
}

// P12.5: parts of streams.
func TestP12_5Cut(t *testing.T) {
	l := events(1, 1, 2, 0, 5, 3)
	for _, x := range []struct {
		from, to int
		want     []api.Event
		e        api.Errno
	}{
		{2, 5, l[1:2], api.OK},
		{2, 6, l[1:], api.OK},
		{1, 2, l[:1], api.OK},
		{0, 6, l, api.OK},
		{2, 2, nil, api.OK},
		{3, 5, nil, api.OK},
		{-7, 1, nil, api.OK},
		{6, 9, nil, api.OK},
		{math.MinInt, math.MaxInt, l, api.OK},
		{math.MinInt, math.MinInt, nil, api.OK},
		{math.MaxInt, math.MaxInt, nil, api.OK},
		{3, 2, nil, api.ErrRange},
		{math.MinInt + 1, math.MinInt, nil, api.ErrRange},
		{math.MaxInt, math.MinInt, nil, api.ErrRange},
	} {
		if c, e := sense.Cut(l, x.from, x.to); e != x.e || !slices.Equal(c, x.want) {
			t.Errorf("Cut from %d to %d: %v, %d, want %v, %d", x.from, x.to, c, e, x.want, x.e)
		}
	}
	c, e := sense.Cut(events(sense.MaxTime, 0), sense.MaxTime, math.MaxInt)
	good(t, "the greatest Tick", c, e, events(sense.MaxTime, 0))
}

// P12.6: a recorder.
func TestP12_6Recorder(t *testing.T) {
	r := sense.NewRecorder()
	b, e := r.Bytes()
	good(t, "no events", b, e, []byte{71, 83, 0, 0, 0, 154, 177})
	count := 0
	for _, x := range []struct {
		x api.Event
		e api.Errno
	}{
		{ev(-1, 0), api.ErrRange},
		{ev(0, 0), api.OK},
		{ev(0, 0), api.ErrArg},
		{ev(0, -1), api.ErrRange},
		{ev(0, 1), api.OK},
		{ev(0, 65536), api.ErrRange},
		{ev(3, 7), api.OK},
		{ev(2, 9), api.ErrArg},
		{ev(3, 6), api.ErrArg},
		{ev(-1, 9), api.ErrRange},
		{ev(sense.MaxTime+1, 0), api.ErrRange},
		{ev(math.MaxInt, math.MinInt), api.ErrRange},
	} {
		if x.e == api.OK {
			count++
		}
		if e := r.Add(x.x); e != x.e || r.Count() != count {
			t.Errorf("%v: %d, want %d; there are %d events, want %d", x.x, e, x.e, r.Count(), count)
		}
	}
	for range 2 {
		b, e = r.Bytes()
		good(t, "three events", b, e, []byte{71, 83, 0, 0, 3, 0, 47, 64, 13, 44})
	}
	if e := r.Add(ev(sense.MaxTime, 65535)); e != api.OK || r.Count() != 4 {
		t.Errorf("the greatest event: %d", e)
	}
}

// P12.6: a recorder with as many events as there can be.
func TestP12_6Full(t *testing.T) {
	r, l := sense.NewRecorder(), many(0, 64, 1024)
	for k, x := range l {
		if e := r.Add(x); e != api.OK || r.Count() != k+1 {
			t.Fatalf("%v: %d, there are %d events", x, e, r.Count())
		}
	}
	for _, x := range events(64, 0, -1, 0, 63, 1023) {
		if e := r.Add(x); e != api.ErrMany || r.Count() != 65536 {
			t.Errorf("%v: %d, there are %d events", x, e, r.Count())
		}
	}
	b, e := r.Bytes()
	want, _ := sense.Pack(l)
	good(t, "all of them", b, e, want)
}

// P12.6: recorders do not know of each other.
func TestP12_6Apart(t *testing.T) {
	a, b := sense.NewRecorder(), sense.NewRecorder()
	if e := a.Add(ev(5, 5)); e != api.OK || b.Count() != 0 {
		t.Errorf("%d, %d", e, b.Count())
	}
	if e := b.Add(ev(1, 1)); e != api.OK || a.Count() != 1 || b.Count() != 1 {
		t.Errorf("%d, %d, %d", e, a.Count(), b.Count())
	}
}

// R3: a recorder that no function of the package made.
func TestR3NoRecorder(t *testing.T) {
	r := sense.NewRecorder()
	if e := r.Add(ev(1, 1)); e != api.OK {
		t.Fatal(e)
	}
	assigned := *r
	for name, r := range map[string]*sense.Recorder{"nil": nil, "zero": {}, "new": new(sense.Recorder), "assigned": &assigned} {
		if e := r.Add(ev(2, 2)); e != api.ErrNil {
			t.Errorf("%s: Add: %d", name, e)
		}
		if e := r.Add(ev(-1, 2)); e != api.ErrNil {
			t.Errorf("%s: Add of no event: %d", name, e)
		}
		b, e := r.Bytes()
		bad(t, name, b, e, api.ErrNil)
		if r.Count() != 0 {
			t.Errorf("%s: Count: %d", name, r.Count())
		}
	}
	if e := r.Add(ev(1, 2)); e != api.OK || r.Count() != 2 {
		t.Error("the recorder itself has changed")
	}
}
