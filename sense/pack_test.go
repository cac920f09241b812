package sense_test

import (
	"fmt"
	"slices"
	"strings"
	"testing"

	"ganglion/api"
	"ganglion/sense"
)

// P12.4: packed bytes that were written by hand.
func TestP12_4Pack(t *testing.T) {
	long := strings.Repeat("1", 24)
	for _, x := range []struct {
		what string
		l    []api.Event
		want []byte
	}{
		{"no events", nil, []byte{71, 83, 0, 0, 0, 154, 177}},
		{"the example", events(0, 0, 0, 1, 3, 7), []byte{71, 83, 0, 0, 3, 0, 47, 64, 13, 44}},
		{"the bits of the example", events(0, 0, 0, 1, 3, 7), sealed(3, "000"+"000"+"00"+"00"+"101"+"11101")},
		{"a byte of bits 0", events(0, 0), sealed(1, "000"+"000")},
		{"the greatest number with a short form", events(95, 0), sealed(1, strings.Repeat("1", 23)+"0"+"11"+"000")},
		{"the least number with a long form", events(96, 0), sealed(1, long+inFull(96)+"000")},
		{"the greatest event", events(1<<30, 65535), sealed(1, long+"1"+strings.Repeat("0", 30)+long+strings.Repeat("0", 15)+strings.Repeat("1", 16))},
		// after 2^30, A is 2^30 + 4 and N 2, so k is 24; 65535 is below 2^24
		{"the greatest k", events(1<<30-65535, 0, 1<<30, 0), sealed(2, long+"0111111111111110000000000000001"+"000"+"0"+"000000001111111111111111"+"00")},
		// A is 5, N is 2, so k is 2 for the gap; the place is 5 - 4 - 1
		{"a place in the same tick", events(1, 4, 1, 5), sealed(2, "001"+"1000"+"000"+"000")},
		{"a place in a later tick", events(1, 4, 2, 5), sealed(2, "001"+"1000"+"001"+"1001")},
	} {
		b, e := sense.Pack(x.l)
		good(t, x.what+": Pack", b, e, x.want)
		l, e := sense.Unpack(x.want)
		good(t, x.what+": Unpack", l, e, x.l)
	}
}

// P12.4: both models forget a half when N is 64, and the number of events has three bytes.
func TestP12_4Long(t *testing.T) {
	for _, n := range []int{61, 62, 63, 64, 65, 94, 95, 96, 97, 255, 256, 257, 65535, 65536} {
		var l []api.Event
		for i := range n {
			l = append(l, ev(i*4+i%3, i%7*i%65536))
		}
		want := modelPack(l)
		b, e := sense.Pack(l)
		good(t, "Pack", b, e, want)
		back, e := sense.Unpack(want)
		good(t, "Unpack", back, e, l)
	}
	b, e := sense.Pack(many(0, 64, 1024))
	if e != api.OK || !slices.Equal(b[:5], []byte{71, 83, 1, 0, 0}) {
		t.Errorf("as many events as there can be: %v, %d", b[:5], e)
	}
	l, e := sense.Unpack(b)
	good(t, "as many events as there can be", l, e, many(0, 64, 1024))
}

// P12.4: bytes that end too early, and other sums.
func TestP12_4Sums(t *testing.T) {
	whole := modelPack(events(0, 0, 0, 1, 3, 7))
	for k := range whole {
		want := api.ErrSum
		if k < 7 {
			want = api.ErrTorn
		}
		l, e := sense.Unpack(whole[:k])
		bad(t, "torn", l, e, want)
	}
	for k := range whole {
		for x := range 256 {
			b := slices.Clone(whole)
			if b[k] == byte(x) {
				continue
			}
			want := api.ErrSum
			if k < len(whole)-2 && (b[k] == 0 && x == 255 || b[k] == 255 && x == 0) {
				want = api.ErrForm // these two are the same in sums
			}
			b[k] = byte(x)
			l, e := sense.Unpack(b)
			bad(t, "another byte", l, e, want)
		}
	}
	// 255 is 0 in sums, but no byte of one
	zero := summed(71, 83, 0, 0, 0, 101)
	if zero[6] != 0 {
		t.Fatalf("the sum is %v", zero[6:])
	}
	zero[6] = 255
	for _, b := range [][]byte{zero, {71, 83, 0, 0, 0, 0, 0}, {71, 83, 0, 0, 0, 177, 154}, {71, 83, 0, 0, 0, 154, 177, 0}, {71, 83, 0, 0, 0, 0, 154, 177}} {
		l, e := sense.Unpack(b)
		bad(t, "another sum", l, e, api.ErrSum)
	}
}

// inFull are all 31 bits of a number.
func inFull(v int) string { return fmt.Sprintf("%031b", v) }

// written are the bits of any gaps and places, in turns.
func written(l ...int) string {
	models, bits := [2]*numbersModel{{4, 1}, {4, 1}}, ""
	for i, v := range l {
		bits += models[i%2].bits(v)
	}
	return bits
}

// P12.4: bytes with the right sum that are no packed bytes.
func TestP12_4Form(t *testing.T) {
	long := strings.Repeat("1", 24)
	for _, x := range []struct {
		what string
		b    []byte
		e    api.Errno
	}{
		{"another first byte", summed(72, 83, 0, 0, 0), api.ErrForm},
		{"another second byte", summed(71, 84, 0, 0, 0), api.ErrForm},
		{"no events, and a byte", summed(71, 83, 0, 0, 0, 0), api.ErrForm},
		{"no bits", summed(71, 83, 0, 0, 1), api.ErrForm},
		{"many events without bits", summed(71, 83, 255, 255, 255), api.ErrForm},
		{"one event", summed(71, 83, 0, 0, 1, 0), api.OK},
		{"fewer events than there are", summed(71, 83, 0, 0, 0, 0), api.ErrForm},
		{"bits 1 behind the last one", summed(71, 83, 0, 0, 1, 1), api.ErrForm},
		{"the next bit behind the last one", summed(71, 83, 0, 0, 1, 2), api.ErrForm},
		{"a byte behind the last one", summed(71, 83, 0, 0, 1, 0, 0), api.ErrForm},
		{"bits that end in a number", sealed(1, "000"+"11111"), api.ErrForm},
		{"bits that end before its lowest ones", sealed(1, "11110"+"00"+"0"), api.ErrForm},
		{"bits that end in a long form", sealed(1, long), api.ErrForm},
		{"bits that end in the place of the last event", sealed(2, "000000"+"00"), api.ErrForm},
		{"the long form of 0", sealed(1, long+inFull(0)+"000"), api.ErrForm},
		{"the long form of 95", sealed(1, long+inFull(95)+"000"), api.ErrForm},
		{"the long form of 96", sealed(1, long+inFull(96)+"000"), api.OK},
		{"a place in the long form of 95", sealed(1, "000"+long+inFull(95)), api.ErrForm},
		{"the greatest Tick", sealed(1, written(1<<30, 0)), api.OK},
		{"a Tick too great", sealed(1, written(1<<30+1, 0)), api.ErrForm},
		{"the greatest number", sealed(1, written(1<<31-1, 1<<31-1)), api.ErrForm},
		{"a Tick too great by the second gap", sealed(2, written(1<<30, 0, 1, 0)), api.ErrForm},
		{"the greatest Id", sealed(1, written(0, 65535)), api.OK},
		{"an Id too great", sealed(1, written(0, 65536)), api.ErrForm},
		{"an Id too great behind the greatest one", sealed(2, written(0, 65535, 0, 0)), api.ErrForm},
		{"the greatest Id behind another one", sealed(2, written(0, 65534, 0, 0)), api.OK},
		{"more events than there can be", sealed(65537, modelBits(many(0, 65, 1024)[:65537])), api.ErrForm},
	} {
		l, e := sense.Unpack(x.b)
		if e != x.e || (e == api.OK) == (len(l) == 0) {
			t.Errorf("%s: %d events, %d, want %d", x.what, len(l), e, x.e)
		}
	}
}

// P12.4, P12.10: of all bytes with up to 16 bits for one event, just those of the streams are accepted.
func TestP12_4AllBits(t *testing.T) {
	want := map[string]api.Event{}
	for tick := range 100 {
		for id := range 100 {
			want[string(modelPack(events(tick, id)))] = ev(tick, id)
		}
	}
	accepted := map[int]int{}
	for bits := range 256 + 65536 {
		b := summed(71, 83, 0, 0, 1, byte(bits))
		if bits >= 256 {
			b = summed(71, 83, 0, 0, 1, byte((bits-256)/256), byte(bits))
		}
		l, e := sense.Unpack(b)
		if x, is := want[string(b)]; is {
			good(t, "a stream", l, e, []api.Event{x})
			accepted[len(b)]++
		} else {
			bad(t, "not a stream", l, e, api.ErrForm)
		}
	}
	if accepted[8] < 20 || accepted[9] < 500 {
		t.Errorf("of each length were accepted: %v", accepted)
	}
}
