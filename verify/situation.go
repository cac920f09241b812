package verify

import (
	"iter"
	"math/bits"

	"ganglion/net"
)

// situation is what the search knows behind a tick, and the least run that leads there.
type situation struct {
	image net.Image // without what the events of the last choice send, so that all choices of a tick can share it
	run   *run
	left  int // how many free events there can still be
	shown int // the bit k says whether the first k moments of the pattern are shown
}

// run is a run up to some tick. Before the tick 0 there is an empty one.
type run struct {
	choice int // in the last tick
	before *run
}

// shows reports whether so many moments of the pattern are shown.
func (x situation) shows(moments int) bool { return x.shown>>moments&1 == 1 }

// name returns the string of a situation whose image is complete. No other situation behind the tick has the same one.
func (x situation) name() string {
	var b []byte
	put := func(n int) {
		// The bit 0 is the sign, so that numbers near 0 are short.
		u := uint(n<<1) ^ uint(n>>(bits.UintSize-1))
		for ; u >= 128; u >>= 7 {
			b = append(b, byte(u)|128)
		}
		b = append(b, byte(u))
	}
	put(x.left)
	put(x.shown)
	for _, s := range x.image.States {
		put(s.V)
		put(s.Rest)
	}
	for _, row := range x.image.Due {
		for i, sum := range row {
			if sum != 0 {
				put(i + 1)
				put(sum)
			}
		}
		put(0)
	}
	return string(b)
}

// choices yields the choices of a tick for so many free inputs, with at most so many events, in their order.
func choices(inputs, most int) iter.Seq[int] {
	return func(yield func(int) bool) {
		for c := range 1 << inputs {
			if bits.OnesCount(uint(c)) <= most && !yield(c) {
				return
			}
		}
	}
}
