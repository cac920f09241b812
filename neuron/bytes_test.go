package neuron_test

import (
	"bytes"
	"slices"
	"testing"

	"ganglion/api"
	"ganglion/neuron"
)

// greatest has all numbers at their bounds, as far as a neuron can have them.
var greatest = api.Params{LeakKind: api.LeakLine, Leak: api.MaxV, Bias: -api.MaxV, Thresh: api.MaxV, Reset: -api.MaxV, Floor: -api.MaxV, Rest: api.MaxRest}

// P1.5: the bytes, as they are written.
func TestP1_5Pack(t *testing.T) {
	for _, x := range []struct {
		p    api.Params
		want []byte
	}{
		{neuronA, []byte{1, 0, 0, 1, 0, 0, 0, 0, 0, 5, 0, 0, 0, 255, 255, 252, 1}},
		{neuronB, []byte{4, 0, 0, 0, 0, 0, 2, 0, 0, 5, 0, 0, 0, 255, 255, 252, 1}},
		{greatest, []byte{1, 16, 0, 0, 240, 0, 0, 16, 0, 0, 240, 0, 0, 240, 0, 0, 64}},
		{api.Params{LeakKind: api.LeakShare, Leak: 256, Bias: 0x12345, Thresh: 0x54321, ResetKind: api.ResetSub, Floor: -0x6789a}, []byte{6, 0, 1, 0, 1, 0x23, 0x45, 5, 0x43, 0x21, 0, 0, 0, 0xf9, 0x87, 0x66, 0}},
	} {
		if b, e := neuron.Pack(x.p); !bytes.Equal(b, x.want) || e != api.OK {
			t.Errorf("Pack(%v): %v, %d, want %v", x.p, b, e, x.want)
		}
		if p, e := neuron.Unpack(x.want); p != x.p || e != api.OK {
			t.Errorf("Unpack(%v): %v, %d, want %v", x.want, p, e, x.p)
		}
	}
}

// P1.5, R4: each result of Pack is new memory.
func TestP1_5PackIsNew(t *testing.T) {
	b, _ := neuron.Pack(neuronA)
	c, _ := neuron.Pack(neuronA)
	b[0] = 77
	if c[0] != 1 {
		t.Errorf("two results of Pack share memory")
	}
}

// P1.5: Unpack of too few or too many bytes, whatever is in them.
func TestP1_5UnpackLengths(t *testing.T) {
	good, _ := neuron.Pack(neuronA)
	for n := range 60 {
		for _, fill := range []byte{0, 255} {
			b := slices.Repeat([]byte{fill}, n)
			copy(b, good)
			want, p := api.OK, neuronA
			if n < 17 {
				want, p = api.ErrTorn, api.Params{}
			} else if n > 17 {
				want, p = api.ErrLong, api.Params{}
			}
			if q, e := neuron.Unpack(b); q != p || e != want {
				t.Errorf("Unpack of %d bytes: %v, %d, want %v, %d", n, q, e, p, want)
			}
		}
	}
	if p, e := neuron.Unpack(nil); p != (api.Params{}) || e != api.ErrTorn {
		t.Errorf("Unpack of nil: %v, %d", p, e)
	}
}

// P1.5: a byte that is not one of a valid neuron.
func TestP1_5UnpackForm(t *testing.T) {
	good, _ := neuron.Pack(neuronA)
	for _, x := range []struct {
		at   int
		c    byte
		want api.Errno
	}{
		{0, 0, api.ErrForm}, {0, 2, api.OK}, {0, 3, api.ErrForm}, {0, 4, api.ErrForm}, {0, 5, api.OK}, {0, 7, api.ErrForm}, {0, 8, api.ErrForm}, {0, 9, api.ErrForm}, {0, 129, api.ErrForm}, {0, 255, api.ErrForm},
		{1, 128, api.ErrForm}, {1, 16, api.ErrForm}, {3, 0, api.ErrForm}, {4, 240, api.OK}, {4, 16, api.OK}, {4, 17, api.ErrForm}, {4, 239, api.ErrForm},
		{9, 0, api.ErrForm}, {7, 255, api.ErrForm}, {12, 5, api.ErrForm}, {12, 4, api.OK}, {10, 255, api.ErrForm}, {13, 0, api.ErrForm}, {13, 239, api.ErrForm}, {16, 64, api.OK}, {16, 65, api.ErrForm}, {16, 255, api.ErrForm},
	} {
		b := slices.Clone(good)
		b[x.at] = x.c
		c := slices.Clone(b)
		p, e := neuron.Unpack(b)
		if e != x.want || e != api.OK && p != (api.Params{}) {
			t.Errorf("Unpack with the byte %d at %d: %v, %d, want %d", x.c, x.at, p, e, x.want)
		}
		if !bytes.Equal(b, c) {
			t.Errorf("Unpack changed its argument: %v", b)
		}
	}
}

// P1.10: Unpack of Pack is the neuron, and different neurons have different bytes.
func TestP1_10Bytes(t *testing.T) {
	var g generator = 29
	seen := map[string]api.Params{}
	for i := range 6000 {
		p := g.params([]int{3, 300, api.MaxV}[i%3])
		b, e := neuron.Pack(p)
		if e != api.OK {
			t.Fatalf("Pack(%v): %d", p, e)
		}
		if q, e := neuron.Unpack(b); q != p || e != api.OK {
			t.Fatalf("Unpack of Pack of %v: %v, %d", p, q, e)
		}
		if q, met := seen[string(b)]; met && q != p {
			t.Fatalf("%v and %v have the same bytes", p, q)
		}
		seen[string(b)] = p
	}
}

// P1.10, P1.5: bytes from which a neuron is read are the bytes of this neuron.
func TestP1_10BytesBack(t *testing.T) {
	var g generator = 31
	good := 0
	for range 20000 {
		b, _ := neuron.Pack(g.params(1000))
		b[g.below(17)] = byte(g.below(256))
		p, e := neuron.Unpack(b)
		if e == api.ErrForm {
			continue
		}
		good++
		if c, f := neuron.Pack(p); e != api.OK || f != api.OK || !bytes.Equal(b, c) {
			t.Fatalf("Unpack(%v): %v, %d, of which Pack returns %v, %d", b, p, e, c, f)
		}
	}
	if good == 0 {
		t.Error("no neuron was read")
	}
}
