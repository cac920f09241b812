package sense

const (
	mostShift = 24 // of a model
	mostOnes  = 24 // before a number that is written with all its bits
	allBits   = 31 // of such a number
	mostCount = 64 // where a model forgets a half
)

// model says with how many bits numbers are written, by those that were written before.
type model struct {
	sum   int
	count int
}

// newModel returns a model at first.
func newModel() *model { return &model{sum: 4, count: 1} }

// shift returns how many bits of the next number are written as they are.
func (m *model) shift() int {
	k := 0
	for k < mostShift && m.count<<k < m.sum {
		k++
	}
	return k
}

// learn adds a number that was written or read.
func (m *model) learn(v int) {
	m.sum += v
	m.count++
	if m.count == mostCount {
		m.sum /= 2
		m.count /= 2
	}
}

// write writes a number.
func (m *model) write(put func(v, n int), v int) {
	k := m.shift()
	if q := v >> k; q < mostOnes {
		put(-1, q) // all bits of -1 are 1
		put(0, 1)
		put(v, k)
	} else {
		put(-1, mostOnes)
		put(v, allBits)
	}
	m.learn(v)
}

// read reads a number, and says whether there were bits enough.
func (m *model) read(get func(n int) (int, bool)) (int, bool) {
	k, q := m.shift(), 0
	for q < mostOnes {
		bit, has := get(1)
		if !has {
			return 0, false
		}
		if bit == 0 {
			break
		}
		q++
	}
	if q == mostOnes {
		q, k = 0, allBits
	}
	low, has := get(k)
	v := q<<k | low
	m.learn(v)
	return v, has
}

// bitsBehind returns a function that writes the n lowest bits of a number, the highest one of them first, behind bytes.
func bitsBehind(b *[]byte) func(v, n int) {
	room := 0 // how many bits of the last byte are not written yet
	return func(v, n int) {
		for n > 0 {
			if room == 0 {
				*b = append(*b, 0)
				room = 8
			}
			n--
			room--
			(*b)[len(*b)-1] |= byte(v>>n&1) << room
		}
	}
}

// bitsOf returns a function that reads the next n bits of bytes as a number, and says whether there were so many.
func bitsOf(b []byte) func(n int) (int, bool) {
	at := 0
	return func(n int) (int, bool) {
		if n > 8*len(b)-at {
			return 0, false
		}
		v := 0
		for range n {
			v = v<<1 | int(b[at/8]>>(7-at%8)&1)
			at++
		}
		return v, true
	}
}
