package lang

import (
	"iter"
	"slices"

	"ganglion/api"
)

// The generator of the document.
const (
	factor = 6364136223846793005
	added  = 1442695040888963407
)

// generator draws what is random.
type generator uint64

// below draws a number below n.
func (g *generator) below(n int) int {
	*g = *g*factor + added
	return int(uint64(*g) >> 33 % uint64(n))
}

// skip draws so many numbers that nobody needs. It does not go one by one: to multiply and to add several times is to do
// so once, with other numbers, and those for twice as many times follow from them.
func (g *generator) skip(n int) {
	by, plus := generator(factor), generator(added)
	for ; n > 0; n /= 2 {
		if n%2 == 1 {
			*g = *g*by + plus
		}
		by, plus = by*by, by*plus+plus
	}
}

// limits are those of a weight, or of a delay.
type limits struct{ least, most int }

// inside reports whether there are such numbers, and all of them are from least to most.
func (l limits) inside(least, most int) bool {
	return least <= l.least && l.least <= l.most && l.most <= most
}

// draw draws a number that is within the limits, if there is a choice.
func (l limits) draw(g *generator) int {
	if l.least == l.most {
		return l.least
	}
	return l.least + g.below(l.most-l.least+1)
}

func (b *builder) join() {
	word := b.form("join FROM TO", "all | others | one | shift K | near K | random P | pick K", "weight A B delay C D")[1]
	from, to := b.groups.find(b.next()), b.population()
	r := rule{word: word, n: from.Count, m: to.Count, random: &b.random}
	if r.hasNumber() {
		r.k = b.number()
	}
	weight := limits{b.number(), b.number()}
	delay := limits{b.number(), b.number()}
	need(r.valid() && weight.inside(-api.MaxWeight, api.MaxWeight) && delay.inside(1, api.MaxDelay), api.ErrRange)
	need(r.fits(), api.ErrShape)
	for j := range to.Count {
		for i := range r.sources(j) {
			b.connect(from, i, to, j, weight, delay)
		}
	}
}

func (b *builder) wire() {
	b.form("wire FROM I TO J weight A delay C")
	from, i := b.groups.find(b.next()), b.number()
	to, j := b.population(), b.number()
	a, c := b.number(), b.number()
	weight, delay := limits{a, a}, limits{c, c}
	need(among(i, 0, from.Count-1) && among(j, 0, to.Count-1), api.ErrRange)
	need(weight.inside(-api.MaxWeight, api.MaxWeight) && delay.inside(1, api.MaxDelay), api.ErrRange)
	b.connect(from, i, to, j, weight, delay)
}

// connect makes a synapse from the neuron or input i of a group to the neuron j of another one.
func (b *builder) connect(from Group, i int, to Group, j int, weight, delay limits) {
	need(len(b.net.Synapses) < api.MaxSynapses, api.ErrMany)
	s := api.Synapse{From: from.First + i, To: to.First + j}
	if from.Input {
		s.From = -1 - s.From
	}
	s.Weight = weight.draw(&b.random)
	s.Delay = delay.draw(&b.random)
	b.net.Synapses = append(b.net.Synapses, s)
}

// rule says from which of n sources there are synapses to each of m targets. What is random is drawn when it is needed.
type rule struct {
	word   string
	k      int // of those that have a number
	n, m   int
	random *generator
}

// hasNumber reports whether there is a number behind the word of the rule.
func (r rule) hasNumber() bool { return r.word != "all" && r.word != "others" && r.word != "one" }

// valid reports whether the number of the rule is in its range.
func (r rule) valid() bool {
	switch r.word {
	case "near", "pick":
		return r.k >= 0
	case "random":
		return among(r.k, 0, 256)
	}
	return true
}

// fits reports whether the rule goes with so many sources and targets.
func (r rule) fits() bool {
	switch r.word {
	case "one":
		return r.n == r.m
	case "pick":
		return r.k <= r.n
	}
	return true
}

// sources yields the sources of the target j, in ascending order.
func (r rule) sources(j int) iter.Seq[int] {
	switch r.word {
	case "others":
		return r.others(j)
	case "one":
		return span(j, j)
	case "shift":
		i := ((j-r.k)%r.n + r.n) % r.n
		return span(i, i)
	case "near":
		return span(max(j-r.k, 0), min(j+r.k, r.n-1))
	case "random":
		return r.chance()
	case "pick":
		return r.picked()
	}
	return span(0, r.n-1)
}

// span yields the numbers from least to most.
func span(least, most int) iter.Seq[int] {
	return func(yield func(int) bool) {
		for i := least; i <= most && yield(i); i++ {
		}
	}
}

// others yields all sources but one.
func (r rule) others(j int) iter.Seq[int] {
	return func(yield func(int) bool) {
		for i := range r.n {
			if i != j && !yield(i) {
				return
			}
		}
	}
}

// chance yields each source with a probability. It draws for each of them just before, as what the synapse before it
// needed is drawn earlier.
func (r rule) chance() iter.Seq[int] {
	return func(yield func(int) bool) {
		if r.k == 0 {
			// Joins without synapses are not bounded by their number, so many of them have to be quick.
			r.random.skip(r.n)
			return
		}
		for i := range r.n {
			if r.random.below(256) < r.k && !yield(i) {
				return
			}
		}
	}
}

// picked yields k different sources.
func (r rule) picked() iter.Seq[int] {
	return func(yield func(int) bool) {
		if r.k == 0 {
			return
		}
		left := slices.Collect(span(0, r.n-1))
		var l []int
		for range r.k {
			i := r.random.below(len(left))
			l = append(l, left[i])
			left = slices.Delete(left, i, i+1)
		}
		slices.Sort(l)
		for _, i := range l {
			if !yield(i) {
				return
			}
		}
	}
}
