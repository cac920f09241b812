package sense

import (
	"bytes"

	"ganglion/api"
)

const (
	headSize = 5 // bytes before the bits
	sumSize  = 2 // bytes behind the bits
)

// Pack returns events as bytes.
func Pack(l []api.Event) ([]byte, api.Errno) {
	if e := checkStream(l); e != api.OK {
		return nil, e
	}
	return packed(l), api.OK
}

// Unpack returns the events of bytes.
func Unpack(b []byte) ([]api.Event, api.Errno) {
	if len(b) < headSize+sumSize {
		return nil, api.ErrTorn
	}
	body, tail := b[:len(b)-sumSize], b[len(b)-sumSize:]
	if sum(body) != [sumSize]byte{tail[0], tail[1]} {
		return nil, api.ErrSum
	}
	l, is := unpacked(body)
	// Other bytes can say the same events, but only one way to write them is the right one.
	if !is || !bytes.Equal(packed(l), b) {
		return nil, api.ErrForm
	}
	return l, api.OK
}

// sum returns the sum of bytes.
func sum(b []byte) [sumSize]byte {
	s, t := 0, 0
	for _, x := range b {
		s = (s + int(x)) % 255
		t = (t + s) % 255
	}
	return [sumSize]byte{byte(s), byte(t)}
}

// start stands for the event before the first one: the first one that can follow is 0/0.
func start() api.Event { return api.Event{Id: -1} }

// leastId returns the least Id that an event can have, by its gap to the one before it.
func leastId(before api.Event, gap int) int {
	if gap > 0 {
		return 0
	}
	return before.Id + 1
}

// packed returns the packed bytes of a stream.
func packed(l []api.Event) []byte {
	n := len(l)
	b := []byte{71, 83, byte(n >> 16), byte(n >> 8), byte(n)}
	put := bitsBehind(&b)
	times, ids := newModel(), newModel()
	before := start()
	for _, x := range l {
		gap := x.Tick - before.Tick
		times.write(put, gap)
		ids.write(put, x.Id-leastId(before, gap))
		before = x
	}
	s := sum(b)
	return append(b, s[:]...)
}

// unpacked returns the events that bytes without their sum say, and whether these are a stream, and no bits are missing.
func unpacked(b []byte) ([]api.Event, bool) {
	n := int(b[2])<<16 | int(b[3])<<8 | int(b[4])
	get := bitsOf(b[headSize:])
	times, ids := newModel(), newModel()
	before := start()
	var l []api.Event
	for range n {
		gap, has := times.read(get)
		place, also := ids.read(get)
		x := api.Event{Tick: before.Tick + gap, Id: leastId(before, gap) + place}
		if !has || !also || checkNext(l, x) != api.OK {
			return nil, false
		}
		l = append(l, x)
		before = x
	}
	return l, true
}
