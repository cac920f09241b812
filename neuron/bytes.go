package neuron

import "ganglion/api"

// size is how many bytes a neuron has.
const size = 17

// Pack returns the bytes of a neuron.
func Pack(p api.Params) ([]byte, api.Errno) {
	if e := Check(p); e != api.OK {
		return nil, e
	}
	b := make([]byte, 0, size)
	put := func(x int) { b = append(b, byte(x>>16), byte(x>>8), byte(x)) }
	b = append(b, byte(p.LeakKind+4*p.ResetKind))
	put(p.Leak)
	put(p.Bias)
	put(p.Thresh)
	put(p.Reset)
	put(p.Floor)
	return append(b, byte(p.Rest)), api.OK
}

// Unpack returns the neuron of bytes.
func Unpack(b []byte) (api.Params, api.Errno) {
	if len(b) < size {
		return api.Params{}, api.ErrTorn
	}
	if len(b) > size {
		return api.Params{}, api.ErrLong
	}
	at := 1
	get := func() int {
		x := int(b[at])<<16 | int(b[at+1])<<8 | int(b[at+2])
		at += 3
		if x >= 1<<23 { // the highest bit is the sign
			x -= 1 << 24
		}
		return x
	}
	p := api.Params{LeakKind: int(b[0] % 4), ResetKind: int(b[0] / 4)}
	p.Leak = get()
	p.Bias = get()
	p.Thresh = get()
	p.Reset = get()
	p.Floor = get()
	p.Rest = int(b[at])
	if Check(p) != api.OK {
		return api.Params{}, api.ErrForm
	}
	return p, api.OK
}
