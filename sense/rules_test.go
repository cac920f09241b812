package sense_test

import (
	"bytes"
	"reflect"
	"slices"
	"testing"

	"ganglion/api"
	"ganglion/sense"
)

// P0, R2: for any arguments every function ends, without a panic, and with an error there is nothing else.
func TestP0AnyArguments(t *testing.T) {
	var g generator = 41
	number := func() int {
		if g.below(4) == 0 {
			return g.one(edges...)
		}
		return g.from(0, 3)
	}
	list := func() []int {
		var l []int
		for range g.from(0, 5) {
			l = append(l, number())
		}
		return l
	}
	stream := func() []api.Event {
		var l []api.Event
		for range g.from(0, 5) {
			l = append(l, ev(number(), number()))
		}
		if g.below(2) == 0 {
			slices.SortFunc(l, byTick)
		}
		return l
	}
	right, wrong := 0, 0
	check := func(what string, n int, e api.Errno) {
		if e != api.OK && n > 0 {
			t.Fatalf("%s: %d elements with the error %d", what, n, e)
		}
		if e == api.OK {
			right++
		} else {
			wrong++
		}
	}
	for range 20000 {
		c := sense.Camera{Wide: number(), High: number(), Step: number()}
		var frames [][]int
		for range g.from(0, 3) {
			frames = append(frames, list())
		}
		l, e := sense.Watch(c, frames)
		check("Watch", len(l), e)
		f, e := sense.Rebuild(c, list(), stream(), number())
		check("Rebuild", len(f), e)
		l, e = sense.Clean(c, stream(), number())
		check("Clean", len(l), e)
		l, e = sense.Hear(sense.Ear{Channels: number(), Step: number()}, list())
		check("Hear", len(l), e)
		l, e = sense.Feel(sense.Whisker{Touch: number(), Back: number()}, list())
		check("Feel", len(l), e)
		b, e := sense.Pack(stream())
		check("Pack", len(b), e)
		l, e = sense.Merge(stream(), stream())
		check("Merge", len(l), e)
		l, e = sense.Cut(stream(), number(), number())
		check("Cut", len(l), e)
		r := sense.NewRecorder()
		for _, x := range stream() {
			check("Add", 0, r.Add(x))
		}
	}
	if right < 20000 || wrong < 20000 {
		t.Errorf("%d calls without an error, %d with one", right, wrong)
	}
}

// P0: bytes of all sorts.
func TestP0AnyBytes(t *testing.T) {
	var g generator = 43
	for range 50000 {
		var b []byte
		for range g.from(0, 40) {
			b = append(b, byte(g.one(0, 255, g.below(256))))
		}
		if g.below(4) > 0 {
			b = summed(append([]byte{71, 83, byte(g.one(0, 1, 255)), 0, byte(g.from(0, 9))}, b...)...)
		}
		l, e := sense.Unpack(b)
		if e == api.OK {
			again, f := sense.Pack(l)
			good(t, "accepted", again, f, b)
		} else if len(l) > 0 || !slices.Contains([]api.Errno{api.ErrTorn, api.ErrSum, api.ErrForm}, e) {
			t.Fatalf("Unpack(%v): %v, %d", b, l, e)
		}
	}
}

// R3: a nil list is an empty one.
func TestR3Nil(t *testing.T) {
	var ints, none = []int(nil), []int{}
	var l, empty = []api.Event(nil), []api.Event{}
	both := func(what string, a, b any, e, f api.Errno) {
		t.Helper()
		if e != f || reflect.ValueOf(a).Len() != 0 && !reflect.DeepEqual(a, b) || reflect.ValueOf(b).Len() != reflect.ValueOf(a).Len() {
			t.Errorf("%s: %v, %d with nil, %v, %d with an empty list", what, a, e, b, f)
		}
	}
	a, e := sense.Watch(small, nil)
	b, f := sense.Watch(small, [][]int{})
	both("Watch", a, b, e, f)
	a, e = sense.Watch(small, [][]int{ints})
	b, f = sense.Watch(small, [][]int{none})
	both("Watch of frames", a, b, e, f)
	rows, e := sense.Rebuild(small, []int{1, 2}, l, 2)
	others, f := sense.Rebuild(small, []int{1, 2}, empty, 2)
	both("Rebuild", rows, others, e, f)
	rows, e = sense.Rebuild(small, ints, l, 2)
	others, f = sense.Rebuild(small, none, l, 2)
	both("Rebuild of no levels", rows, others, e, f)
	a, e = sense.Clean(small, l, 0)
	b, f = sense.Clean(small, empty, 0)
	both("Clean", a, b, e, f)
	a, e = sense.Hear(sense.Ear{Channels: 1, Step: 1}, ints)
	b, f = sense.Hear(sense.Ear{Channels: 1, Step: 1}, none)
	both("Hear", a, b, e, f)
	a, e = sense.Feel(sense.Whisker{Touch: 1}, ints)
	b, f = sense.Feel(sense.Whisker{Touch: 1}, none)
	both("Feel", a, b, e, f)
	packed, e := sense.Pack(l)
	same, f := sense.Pack(empty)
	both("Pack", packed, same, e, f)
	a, e = sense.Unpack(nil)
	b, f = sense.Unpack([]byte{})
	both("Unpack", a, b, e, f)
	a, e = sense.Merge(l, events(1, 1))
	b, f = sense.Merge(empty, events(1, 1))
	both("Merge", a, b, e, f)
	a, e = sense.Merge(events(1, 1), l)
	b, f = sense.Merge(events(1, 1), empty)
	both("Merge", a, b, e, f)
	a, e = sense.Cut(l, 0, 9)
	b, f = sense.Cut(empty, 0, 9)
	both("Cut", a, b, e, f)
}

// overwrite changes all elements of a list, also those behind its end.
func overwrite[T any](l []T, x T) {
	l = l[:cap(l)]
	for i := range l {
		l[i] = x
	}
}

// R4: no argument is changed, and no result shares memory with one, or with another result.
func TestR4Memory(t *testing.T) {
	nowhere := ev(-7, -7)
	a, b := events(1, 1, 2, 0, 5, 3), events(1, 0, 2, 0)
	a, b = append(a, ev(9, 9))[:3], append(b, ev(9, 9))[:2] // with room behind the end
	keepA, keepB := slices.Clone(a[:4]), slices.Clone(b[:3])
	for _, make := range []func() ([]api.Event, api.Errno){
		func() ([]api.Event, api.Errno) { return sense.Merge(a, b) },
		func() ([]api.Event, api.Errno) { return sense.Merge(a, nil) },
		func() ([]api.Event, api.Errno) { return sense.Merge(nil, a) },
		func() ([]api.Event, api.Errno) { return sense.Merge(a, a) },
		func() ([]api.Event, api.Errno) { return sense.Cut(a, 2, 9) },
		func() ([]api.Event, api.Errno) { return sense.Cut(a, 0, 9) },
		func() ([]api.Event, api.Errno) { return sense.Clean(small, a, 9) },
	} {
		l, e := make()
		want := slices.Clone(l)
		overwrite(l, nowhere)
		if e != api.OK || len(l) == 0 || !slices.Equal(a[:4], keepA) || !slices.Equal(b[:3], keepB) {
			t.Errorf("%d: %v, %v", e, a[:4], b[:3])
		}
		l, e = make()
		good(t, "again", l, e, want)
	}
}

// R4: the same for frames, samples and bytes.
func TestR4Frames(t *testing.T) {
	first, l := []int{1, 2}, events(1, 1, 3, 2)
	frames, e := sense.Rebuild(small, first, l, 4)
	want := [][]int{{1, 2}, {11, 2}, {11, 2}, {11, -8}}
	if e != api.OK || !same(frames, want) {
		t.Fatalf("%v, %d", frames, e)
	}
	for k := range frames {
		overwrite(frames[k], 99)
		if !same(frames[k+1:], want[k+1:]) || !slices.Equal(first, []int{1, 2}) || !slices.Equal(l, events(1, 1, 3, 2)) {
			t.Errorf("%v, %v, %v", frames, first, l)
		}
	}
	shown := [][]int{{50, 50}, {60, 45}, {85, 40}}
	sense.Watch(small, shown)
	if !same(shown, [][]int{{50, 50}, {60, 45}, {85, 40}}) {
		t.Errorf("Watch: %v", shown)
	}
	samples := []int{9, -9, 0}
	sense.Hear(sense.Ear{Channels: 2, Step: 1}, samples)
	sense.Feel(sense.Whisker{Touch: 1}, samples)
	if !slices.Equal(samples, []int{9, -9, 0}) {
		t.Errorf("Hear, Feel: %v", samples)
	}
	b := modelPack(l)
	b = append(b, 1, 2, 3)[:len(b)]
	keep := bytes.Clone(b[:len(b)+3])
	sense.Unpack(b)
	if !bytes.Equal(b[:len(b)+3], keep) {
		t.Errorf("Unpack: %v", b)
	}
}

// R4: a recorder shares no memory with the bytes that it returns.
func TestR4Recorder(t *testing.T) {
	r := sense.NewRecorder()
	for _, x := range events(0, 0, 0, 1, 3, 7) {
		r.Add(x)
	}
	b, _ := r.Bytes()
	want := bytes.Clone(b)
	overwrite(b, 9)
	b, e := r.Bytes()
	good(t, "Bytes", b, e, want)
	// an event that is not recorded changes nothing
	r.Add(ev(3, 7))
	b, e = r.Bytes()
	good(t, "Bytes again", b, e, want)
}
