package motif_test

import (
	"math"
	"reflect"
	"slices"
	"testing"

	"ganglion/api"
	"ganglion/motif"
)

// generator is the one of the document.
type generator uint64

func (g *generator) below(n int) int {
	*g = *g*6364136223846793005 + 1442695040888963407
	return int(uint64(*g)>>33) % n
}

func (g *generator) from(least, most int) int { return least + g.below(most-least+1) }

func (g *generator) one(l ...int) int { return l[g.below(len(l))] }

func ev(tick, id int) api.Event { return api.Event{Tick: tick, Id: id} }

// edges are numbers at the bounds of what functions allow, and far outside.
var edges = []int{math.MinInt, math.MinInt + 1, -1 << 32, -api.MaxWeight - 1, -2, -1, 0, 1, 2, 3, 15, 16, 17, 31, 32, 33, 63, 64, 65, 255, 256, 257, 511, 512, 513, api.MaxWeight, api.MaxWeight + 1, api.MaxV, api.MaxV + 1, 1 << 32, math.MaxInt - 1, math.MaxInt}

// row is what a function gives back as a network.
type row struct {
	name string
	n    api.Net
	e    api.Errno
	want api.Errno
}

func checkRows(t *testing.T, l []row) {
	t.Helper()
	for _, x := range l {
		if x.e != x.want {
			t.Errorf("%s: error %d, want %d", x.name, x.e, x.want)
		}
		if x.e != api.OK && !reflect.DeepEqual(x.n, api.Net{}) {
			t.Errorf("%s: %v beside the error %d", x.name, x.n, x.e)
		}
		if x.want == api.OK && len(x.n.Neurons) == 0 {
			t.Errorf("%s: no neurons", x.name)
		}
	}
}

// edgeFaults are lists of edges between 3 vertices, with the error of each; the first error decides.
var edgeFaults = []struct {
	name string
	n    int
	l    []motif.Edge
	e    api.Errno
}{
	{"no vertices", 0, nil, api.ErrRange},
	{"less than none", -1, nil, api.ErrRange},
	{"513 vertices", 513, nil, api.ErrRange},
	{"least number", math.MinInt, nil, api.ErrRange},
	{"vertices before edges", 0, make([]motif.Edge, 4097), api.ErrRange},
	{"4097 edges", 3, make([]motif.Edge, 4097), api.ErrMany},
	{"from -1", 3, []motif.Edge{{From: -1, To: 0, Length: 1}}, api.ErrNone},
	{"from 3", 3, []motif.Edge{{From: 3, To: 0, Length: 1}}, api.ErrNone},
	{"to -1", 3, []motif.Edge{{From: 0, To: -1, Length: 1}}, api.ErrNone},
	{"to 3", 3, []motif.Edge{{From: 0, To: 3, Length: 1}}, api.ErrNone},
	{"length 0", 3, []motif.Edge{{From: 0, To: 1, Length: 0}}, api.ErrRange},
	{"length 17", 3, []motif.Edge{{From: 0, To: 1, Length: 17}}, api.ErrRange},
	{"length -1", 3, []motif.Edge{{From: 0, To: 1, Length: -1}}, api.ErrRange},
	{"vertex before length", 3, []motif.Edge{{From: 0, To: 3, Length: 0}}, api.ErrNone},
	{"first edge", 3, []motif.Edge{{From: 0, To: 1, Length: 16}, {From: 0, To: 1, Length: 0}, {From: 0, To: 3, Length: 1}}, api.ErrRange},
	{"first edge", 3, []motif.Edge{{From: 0, To: 0, Length: 1}, {From: 4, To: 1, Length: 1}, {From: 0, To: 1, Length: 17}}, api.ErrNone},
}

// P9.1: Paths and Before examine the vertices, and then the edges, one by one.
func TestP9_1Edges(t *testing.T) {
	for _, x := range edgeFaults {
		n, e := motif.Paths(x.n, x.l, 7)
		checkRows(t, []row{{"Paths: " + x.name, n, e, x.e}})
		if l, e := motif.Before(x.n, x.l, nil); e != x.e || l != nil {
			t.Errorf("Before: %s: %v, %d, want %d", x.name, l, e, x.e)
		}
	}
	full := make([]motif.Edge, 4096)
	for i := range full {
		full[i] = motif.Edge{From: i % 512, To: i * 7 % 512, Length: i%16 + 1}
	}
	n, e := motif.Paths(512, full, 511)
	checkRows(t, []row{{"all edges", n, e, api.OK}})
	if l, e := motif.Before(512, full, make([]int, 512)); e != api.OK || len(l) != 512 {
		t.Errorf("Before with all edges: %v, %d", l, e)
	}
}

// P9.1: the source is a vertex.
func TestP9_1Source(t *testing.T) {
	for _, x := range []struct {
		n, source int
		e         api.Errno
	}{{3, -1, api.ErrNone}, {3, 3, api.ErrNone}, {3, math.MinInt, api.ErrNone}, {3, math.MaxInt, api.ErrNone}, {3, 0, api.OK}, {3, 2, api.OK}, {512, 511, api.OK}, {1, 0, api.OK}, {1, 1, api.ErrNone}} {
		n, e := motif.Paths(x.n, nil, x.source)
		checkRows(t, []row{{"source", n, e, x.e}})
	}
}

// P9.1: Distances takes the first event of each vertex, in the order of the list.
func TestP9_1Distances(t *testing.T) {
	for _, x := range []struct {
		n    int
		l    []api.Event
		want []int
		e    api.Errno
	}{
		{0, nil, nil, api.ErrRange},
		{-3, []api.Event{ev(1, 0)}, nil, api.ErrRange},
		{513, nil, nil, api.ErrRange},
		{1, nil, []int{-1}, api.OK},
		{3, []api.Event{ev(1, 0), ev(3, 2), ev(5, 1)}, []int{0, 4, 2}, api.OK},
		{3, []api.Event{ev(9, 1), ev(2, 1), ev(9, 1)}, []int{-1, 8, -1}, api.OK},
		{2, []api.Event{ev(4, 2), ev(4, -1), ev(4, math.MinInt), ev(4, math.MaxInt)}, []int{-1, -1}, api.OK},
		{2, []api.Event{ev(0, 0), ev(7, 0), ev(-5, 1)}, []int{-1, -6}, api.OK},
		{2, []api.Event{ev(math.MaxInt, 0), ev(math.MinInt+1, 1)}, []int{math.MaxInt - 1, math.MinInt}, api.OK},
		{1, []api.Event{ev(math.MinInt, 0), ev(1, 0)}, []int{math.MinInt}, api.OK},
	} {
		if l, e := motif.Distances(x.n, x.l); e != x.e || !slices.Equal(l, x.want) || e != api.OK && l != nil {
			t.Errorf("Distances(%d, %v): %v, %d, want %v, %d", x.n, x.l, l, e, x.want, x.e)
		}
	}
	if l, e := motif.Distances(512, []api.Event{ev(8, 511)}); e != api.OK || len(l) != 512 || l[511] != 7 || l[0] != -1 {
		t.Errorf("512 vertices: %v, %d", l, e)
	}
}

// P9.1: Before takes the first edge that fits, and nothing wraps around.
func TestP9_1Before(t *testing.T) {
	edge := func(from, to, length int) motif.Edge { return motif.Edge{From: from, To: to, Length: length} }
	for _, x := range []struct {
		n         int
		l         []motif.Edge
		distances []int
		want      []int
		e         api.Errno
	}{
		{2, nil, nil, nil, api.ErrShape},
		{2, nil, []int{0}, nil, api.ErrShape},
		{2, nil, []int{0, 0, 0}, nil, api.ErrShape},
		{2, []motif.Edge{edge(0, 1, 17)}, []int{0}, nil, api.ErrRange},
		{2, nil, []int{0, 1}, []int{-1, -1}, api.OK},
		{3, []motif.Edge{edge(0, 1, 5), edge(0, 2, 2), edge(2, 1, 2)}, []int{0, 4, 2}, []int{-1, 2, 0}, api.OK},
		{3, []motif.Edge{edge(2, 1, 2), edge(0, 1, 4), edge(0, 2, 2)}, []int{0, 4, 2}, []int{-1, 2, 0}, api.OK},
		{3, []motif.Edge{edge(0, 1, 4), edge(2, 1, 2), edge(0, 2, 2)}, []int{0, 4, 2}, []int{-1, 0, 0}, api.OK},
		{2, []motif.Edge{edge(0, 1, 2), edge(0, 1, 3)}, []int{0, 3}, []int{-1, 0}, api.OK},
		{2, []motif.Edge{edge(0, 1, 2)}, []int{0, 3}, []int{-1, -1}, api.OK},
		{2, []motif.Edge{edge(0, 1, 1)}, []int{-1, 0}, []int{-1, -1}, api.OK},
		{2, []motif.Edge{edge(0, 1, 3)}, []int{-2, 1}, []int{-1, -1}, api.OK},
		{2, []motif.Edge{edge(0, 0, 1), edge(1, 0, 4)}, []int{9, 5}, []int{1, -1}, api.OK},
		{2, []motif.Edge{edge(0, 1, 1), edge(1, 0, 1)}, []int{math.MaxInt, math.MinInt}, []int{-1, -1}, api.OK},
		{2, []motif.Edge{edge(0, 1, 16)}, []int{math.MaxInt - 16, math.MaxInt}, []int{-1, 0}, api.OK},
		{2, []motif.Edge{edge(0, 1, 16)}, []int{math.MaxInt - 15, math.MinInt}, []int{-1, -1}, api.OK},
		{2, []motif.Edge{edge(0, 1, 16)}, []int{math.MinInt, math.MaxInt}, []int{-1, -1}, api.OK},
	} {
		if l, e := motif.Before(x.n, x.l, x.distances); e != x.e || !slices.Equal(l, x.want) || e != api.OK && l != nil {
			t.Errorf("Before(%d, %v, %v): %v, %d, want %v, %d", x.n, x.l, x.distances, l, e, x.want, x.e)
		}
	}
}

// P9.2: how many numbers can be sorted.
func TestP9_2Range(t *testing.T) {
	for _, n := range edges {
		want := api.ErrRange
		if n >= 1 && n <= 64 {
			want = api.OK
		}
		out, e := motif.Sort(n)
		checkRows(t, []row{{"Sort", out, e, want}})
	}
}

// wide is an automaton of q states and a symbols that goes from each state to the next one.
func wide(q, a int) motif.Auto {
	out := motif.Auto{Accept: make([]bool, q)}
	for s := range q {
		next := make([]int, a)
		for c := range next {
			next[c] = (s + c + 1) % q
		}
		out.Next = append(out.Next, next)
	}
	return out
}

// change returns an automaton of 2 states and 2 symbols in which something is different.
func change(f func(a *motif.Auto)) motif.Auto {
	a := motif.Auto{Next: [][]int{{0, 1}, {1, 0}}, Accept: []bool{false, true}}
	f(&a)
	return a
}

// P9.3: Machine, Word and States examine an automaton in the same order.
func TestP9_3Auto(t *testing.T) {
	ragged := [][]int{{0, 9}, {1}}
	for _, x := range []struct {
		name string
		a    motif.Auto
		e    api.Errno
	}{
		{"nothing", motif.Auto{}, api.ErrRange},
		{"no states, but Accept", motif.Auto{Accept: []bool{true}}, api.ErrRange},
		{"33 states", wide(33, 2), api.ErrRange},
		{"32 states", wide(32, 16), api.OK},
		{"no symbols", wide(2, 0), api.ErrRange},
		{"17 symbols", wide(2, 17), api.ErrRange},
		{"16 symbols", wide(2, 16), api.OK},
		{"one of each", wide(1, 1), api.OK},
		{"Accept too short", change(func(a *motif.Auto) { a.Accept = a.Accept[:1] }), api.ErrShape},
		{"Accept too long", change(func(a *motif.Auto) { a.Accept = make([]bool, 3) }), api.ErrShape},
		{"no Accept", change(func(a *motif.Auto) { a.Accept = nil }), api.ErrShape},
		{"Accept before the first row", change(func(a *motif.Auto) { a.Accept, a.Next = nil, make([][]int, 2) }), api.ErrShape},
		{"first row before the others", change(func(a *motif.Auto) { a.Next[0] = nil }), api.ErrRange},
		{"short row", change(func(a *motif.Auto) { a.Next[1] = []int{0} }), api.ErrShape},
		{"long row", change(func(a *motif.Auto) { a.Next[1] = []int{0, 1, 0} }), api.ErrShape},
		{"empty row", change(func(a *motif.Auto) { a.Next[1] = nil }), api.ErrShape},
		{"rows before their elements", change(func(a *motif.Auto) { a.Next = ragged }), api.ErrShape},
		{"next 2", change(func(a *motif.Auto) { a.Next[1][1] = 2 }), api.ErrNone},
		{"next -1", change(func(a *motif.Auto) { a.Next[0][0] = -1 }), api.ErrNone},
		{"next far out", change(func(a *motif.Auto) { a.Next[0][0] = math.MinInt }), api.ErrNone},
		{"start 2", change(func(a *motif.Auto) { a.Start = 2 }), api.ErrNone},
		{"start -1", change(func(a *motif.Auto) { a.Start = -1 }), api.ErrNone},
		{"rows before start", change(func(a *motif.Auto) { a.Start, a.Next[1] = 5, nil }), api.ErrShape},
		{"start 1", change(func(a *motif.Auto) { a.Start = 1 }), api.OK},
	} {
		n, e := motif.Machine(x.a)
		checkRows(t, []row{{x.name, n, e, x.e}})
		if l, e := motif.Word(x.a, []int{0}); e != x.e || e != api.OK && l != nil {
			t.Errorf("Word: %s: %v, %d, want %d", x.name, l, e, x.e)
		}
		if l, e := motif.States(x.a, []api.Event{ev(1, 0)}); e != x.e || e != api.OK && l != nil {
			t.Errorf("States: %s: %v, %d, want %d", x.name, l, e, x.e)
		}
	}
}

// P9.3: the events of a word are in order, also in the tick 0.
func TestP9_3Word(t *testing.T) {
	two, three := wide(2, 2), wide(4, 3)
	for _, x := range []struct {
		a    motif.Auto
		word []int
		want []api.Event
		e    api.Errno
	}{
		{two, nil, []api.Event{ev(0, 2)}, api.OK},
		{two, []int{}, []api.Event{ev(0, 2)}, api.OK},
		{two, []int{1}, []api.Event{ev(0, 1), ev(0, 2)}, api.OK},
		{two, []int{1, 1, 0}, []api.Event{ev(0, 1), ev(0, 2), ev(3, 1), ev(6, 0)}, api.OK},
		{three, []int{2, 0}, []api.Event{ev(0, 2), ev(0, 3), ev(3, 0)}, api.OK},
		{three, []int{0, 3}, nil, api.ErrNone},
		{two, []int{-1}, nil, api.ErrNone},
		{two, []int{math.MinInt}, nil, api.ErrNone},
		{two, []int{0, 1, math.MaxInt}, nil, api.ErrNone},
		{two, slices.Repeat([]int{9}, 3001), nil, api.ErrLong},
	} {
		if l, e := motif.Word(x.a, x.word); e != x.e || !slices.Equal(l, x.want) || e != api.OK && l != nil {
			t.Errorf("Word(%v, %v): %v, %d, want %v, %d", x.a, x.word, l, e, x.want, x.e)
		}
	}
	l, e := motif.Word(three, slices.Repeat([]int{1}, 3000))
	if e != api.OK || len(l) != 3001 || l[3000] != ev(8997, 1) {
		t.Errorf("3000 symbols: %d events, %d", len(l), e)
	}
}

// P9.3: States takes the events of states in the ticks that are 1 modulo 3, in their order.
func TestP9_3States(t *testing.T) {
	a := wide(2, 2)
	for _, x := range []struct{ l, want []int }{
		{nil, nil},
		{[]int{1, 0, 4, 1, 7, 0}, []int{0, 1, 0}},
		{[]int{7, 1, 4, 0, 4, 1, 4, 1}, []int{1, 0, 1, 1}},
		{[]int{0, 0, 2, 1, 3, 0, 5, 1, 6, 0}, nil},
		{[]int{1, 2, 1, -1, 1, 6, 1, math.MaxInt, 1, math.MinInt, 1, 1}, []int{1}},
		{[]int{-2, 1, -1, 0, -3, 0, -5, 0}, []int{1, 0}},
		{[]int{math.MaxInt, 1, math.MaxInt - 1, 0, math.MinInt, 0, math.MinInt + 1, 0, math.MinInt + 2, 1}, []int{1, 0}},
	} {
		var l []api.Event
		for i := 0; i < len(x.l); i += 2 {
			l = append(l, ev(x.l[i], x.l[i+1]))
		}
		if out, e := motif.States(a, l); e != api.OK || !slices.Equal(out, x.want) {
			t.Errorf("States of %v: %v, %d, want %v", l, out, e, x.want)
		}
	}
}

// P9.4: Horn examines clause by clause.
func TestP9_4Clauses(t *testing.T) {
	var sixteen []int
	for i := range 16 {
		sixteen = append(sixteen, i)
	}
	clause := func(then int, x ...int) motif.Clause { return motif.Clause{If: x, Then: then} }
	for _, x := range []struct {
		name string
		n    int
		l    []motif.Clause
		e    api.Errno
	}{
		{"nothing", 0, nil, api.ErrRange},
		{"257 things", 257, nil, api.ErrRange},
		{"things before clauses", -1, make([]motif.Clause, 513), api.ErrRange},
		{"256 things, 512 clauses", 256, make([]motif.Clause, 512), api.OK},
		{"513 clauses", 256, make([]motif.Clause, 513), api.ErrMany},
		{"no clauses", 1, nil, api.OK},
		{"16 things in If", 16, []motif.Clause{clause(0, sixteen...)}, api.OK},
		{"17 things in If", 20, []motif.Clause{clause(0, append([]int{16}, sixteen...)...)}, api.ErrMany},
		{"17 before which", 1, []motif.Clause{clause(9, slices.Repeat([]int{7}, 17)...)}, api.ErrMany},
		{"thing 3", 3, []motif.Clause{clause(0, 0, 3)}, api.ErrNone},
		{"thing -1", 3, []motif.Clause{clause(0, -1)}, api.ErrNone},
		{"twice", 3, []motif.Clause{clause(0, 2, 1, 2)}, api.ErrHave},
		{"no thing before twice", 3, []motif.Clause{clause(0, 1, 1, 3)}, api.ErrNone},
		{"twice before then", 3, []motif.Clause{clause(3, 1, 1)}, api.ErrHave},
		{"then 3", 3, []motif.Clause{clause(3, 1)}, api.ErrNone},
		{"then -2", 3, []motif.Clause{clause(-2)}, api.ErrNone},
		{"then -1", 3, []motif.Clause{clause(-1)}, api.OK},
		{"then from itself", 3, []motif.Clause{clause(2, 2)}, api.OK},
		{"first clause", 3, []motif.Clause{clause(0), clause(0, 1, 1), clause(5)}, api.ErrHave},
		{"first clause", 3, []motif.Clause{clause(0), clause(5), clause(0, 1, 1)}, api.ErrNone},
		{"the same twice", 3, []motif.Clause{clause(0, 1), clause(0, 1)}, api.OK},
	} {
		n, e := motif.Horn(x.n, x.l)
		checkRows(t, []row{{x.name, n, e, x.e}})
	}
}

// P9.5: Memory examines pair by pair.
func TestP9_5Pairs(t *testing.T) {
	for _, x := range []struct {
		name string
		m, n int
		l    []motif.Pair
		e    api.Errno
	}{
		{"no cues", 0, 1, nil, api.ErrRange},
		{"no answers", 1, 0, nil, api.ErrRange},
		{"65 cues", 65, 64, nil, api.ErrRange},
		{"65 answers", 64, 65, nil, api.ErrRange},
		{"cells before pairs", 0, 1, make([]motif.Pair, 257), api.ErrRange},
		{"257 pairs", 64, 64, make([]motif.Pair, 257), api.ErrMany},
		{"256 pairs", 64, 64, make([]motif.Pair, 256), api.OK},
		{"cue 3", 3, 5, []motif.Pair{{In: []int{0, 3}}}, api.ErrNone},
		{"cue -1", 3, 5, []motif.Pair{{In: []int{-1}}}, api.ErrNone},
		{"answer 5", 3, 5, []motif.Pair{{In: []int{2}, Out: []int{4, 5}}}, api.ErrNone},
		{"answer -1", 3, 5, []motif.Pair{{Out: []int{-1}}}, api.ErrNone},
		{"cue twice", 3, 5, []motif.Pair{{In: []int{1, 2, 1}}}, api.ErrHave},
		{"answer twice", 3, 5, []motif.Pair{{In: []int{1}, Out: []int{4, 4}}}, api.ErrHave},
		{"cell before twice", 3, 5, []motif.Pair{{In: []int{1, 1}, Out: []int{9}}}, api.ErrNone},
		{"first pair", 3, 5, []motif.Pair{{}, {In: []int{1, 1}}, {In: []int{7}}}, api.ErrHave},
		{"first pair", 3, 5, []motif.Pair{{In: []int{7}}, {In: []int{1, 1}}}, api.ErrNone},
		{"the same twice", 3, 5, []motif.Pair{{In: []int{1}, Out: []int{1}}, {In: []int{1}, Out: []int{1}}}, api.OK},
	} {
		n, e := motif.Memory(x.m, x.n, x.l)
		checkRows(t, []row{{x.name, n, e, x.e}})
	}
}

// P9.6: Count examines tap by tap, and then the threshold.
func TestP9_6Taps(t *testing.T) {
	tap := func(input, weight, delay int) []motif.Tap {
		return []motif.Tap{{}, {Input: input, Weight: weight, Delay: delay}}[1:]
	}
	for _, x := range []struct {
		name      string
		inputs, h int
		l         []motif.Tap
		e         api.Errno
	}{
		{"no inputs", 0, 1, nil, api.ErrRange},
		{"257 inputs", 257, 1, nil, api.ErrRange},
		{"256 inputs", 256, 1, tap(255, 1, 1), api.OK},
		{"inputs before taps", -1, 1, make([]motif.Tap, 513), api.ErrRange},
		{"513 taps", 1, 1, make([]motif.Tap, 513), api.ErrMany},
		{"512 taps", 1, 1, slices.Repeat(tap(0, 1, 1), 512), api.OK},
		{"input 2", 2, 1, tap(2, 1, 1), api.ErrNone},
		{"input -1", 2, 1, tap(-1, 1, 1), api.ErrNone},
		{"input before weight", 2, 1, tap(2, -1, 0), api.ErrNone},
		{"weight -1", 2, 1, tap(1, -1, 1), api.ErrRange},
		{"weight 32769", 2, 1, tap(1, 32769, 1), api.ErrRange},
		{"weight 0", 2, 1, tap(1, 0, 16), api.OK},
		{"weight 32768", 2, 1, tap(1, 32768, 1), api.OK},
		{"delay 0", 2, 1, tap(1, 1, 0), api.ErrRange},
		{"delay 17", 2, 1, tap(1, 1, 17), api.ErrRange},
		{"first tap", 2, 0, append(tap(1, 1, 0), tap(2, 1, 1)...), api.ErrRange},
		{"first tap before the threshold", 2, 0, append(tap(2, 1, 1), tap(1, 1, 0)...), api.ErrNone},
		{"threshold 0", 2, 0, tap(1, 1, 1), api.ErrRange},
		{"threshold below 0", 2, -5, nil, api.ErrRange},
		{"threshold too great", 2, 1<<20 + 1, nil, api.ErrRange},
		{"greatest threshold", 2, 1 << 20, nil, api.OK},
	} {
		n, e := motif.Count(x.inputs, x.l, x.h)
		checkRows(t, []row{{x.name, n, e, x.e}})
	}
}

// P9.6: Pattern examines mark by mark, and then how many can be missed.
func TestP9_6Marks(t *testing.T) {
	var all []motif.Mark
	for i := range 64 {
		all = append(all, motif.Mark{Input: i / 16, Offset: i % 16})
	}
	for _, x := range []struct {
		name         string
		inputs, miss int
		l            []motif.Mark
		e            api.Errno
	}{
		{"no inputs", 0, 0, nil, api.ErrRange},
		{"257 inputs", 257, 0, all, api.ErrRange},
		{"256 inputs", 256, 0, []motif.Mark{{Input: 255}}, api.OK},
		{"inputs before marks", 0, 0, make([]motif.Mark, 65), api.ErrRange},
		{"65 marks", 4, 0, make([]motif.Mark, 65), api.ErrMany},
		{"64 marks", 4, 63, all, api.OK},
		{"64 marks, all missed", 4, 64, all, api.ErrRange},
		{"no marks", 4, 0, nil, api.ErrArg},
		{"no marks before miss", 4, -1, []motif.Mark{}, api.ErrArg},
		{"input 2", 2, 0, []motif.Mark{{Input: 2}}, api.ErrNone},
		{"input -1", 2, 0, []motif.Mark{{Input: -1}}, api.ErrNone},
		{"input before offset", 2, 0, []motif.Mark{{Input: 2, Offset: 16}}, api.ErrNone},
		{"offset 16", 2, 0, []motif.Mark{{Input: 1, Offset: 16}}, api.ErrRange},
		{"offset -1", 2, 0, []motif.Mark{{Input: 1, Offset: -1}}, api.ErrRange},
		{"offset 15", 2, 0, []motif.Mark{{Input: 1, Offset: 15}}, api.OK},
		{"twice", 2, 0, []motif.Mark{{Input: 1, Offset: 5}, {Input: 0, Offset: 5}, {Input: 1, Offset: 5}}, api.ErrHave},
		{"not as stated before twice", 2, 0, []motif.Mark{{Input: 1, Offset: 16}, {Input: 1, Offset: 16}}, api.ErrRange},
		{"twice before what is not as stated", 2, 0, []motif.Mark{{Input: 1}, {Input: 1}, {Input: 5}}, api.ErrHave},
		{"what is not as stated before twice", 2, 0, []motif.Mark{{Input: 1}, {Input: 5}, {Input: 1}}, api.ErrNone},
		{"twice before miss", 2, 7, []motif.Mark{{Input: 1}, {Input: 1}}, api.ErrHave},
		{"same input", 2, 0, []motif.Mark{{Input: 1}, {Input: 1, Offset: 1}}, api.OK},
		{"miss -1", 2, -1, []motif.Mark{{Input: 1}, {Input: 0}}, api.ErrRange},
		{"miss 1", 2, 1, []motif.Mark{{Input: 1}, {Input: 0}}, api.OK},
		{"miss 2", 2, 2, []motif.Mark{{Input: 1}, {Input: 0}}, api.ErrRange},
	} {
		n, e := motif.Pattern(x.inputs, x.l, x.miss)
		checkRows(t, []row{{x.name, n, e, x.e}})
	}
}
