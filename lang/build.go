package lang

import (
	"strings"

	"ganglion/api"
	"ganglion/neuron"
)

// maxValue is the greatest absolute value of a number in a statement.
const maxValue = 1 << 31

// Build returns what a program denotes, for a seed.
func Build(text string, seed uint64) (Plan, int, api.Errno) {
	statements, at, e := Expand(text)
	if e != api.OK {
		return Plan{}, at, e
	}
	b := newBuilder(seed)
	e = caught(func() { b.do(statements) })
	if e != api.OK {
		return Plan{}, b.at, e
	}
	return Plan{Net: b.net, Groups: b.groups.list, Probes: b.probes.list}, 0, api.OK
}

// builder is what is built so far, and the statement that is done.
type builder struct {
	net    api.Net
	kinds  names[api.Params]
	groups names[Group]
	lets   names[int]
	probes names[Probe]
	random generator
	at     int      // the number of the line of the statement
	words  []string // its words; behind form those that are to be names and numbers, and are not read yet
}

func newBuilder(seed uint64) *builder {
	return &builder{
		kinds:  newNames[api.Params](MaxKinds),
		groups: newNames[Group](MaxGroups),
		lets:   newNames[int](MaxLets),
		probes: newNames[Probe](MaxGroups),
		random: generator(seed),
	}
}

// do does the statements of a program. An error is that of the line b.at.
func (b *builder) do(statements []Line) {
	known := map[string]func(*builder){
		"let":     (*builder).let,
		"neuron":  (*builder).neuron,
		"pop":     (*builder).pop,
		"input":   (*builder).input,
		"current": (*builder).current,
		"join":    (*builder).join,
		"wire":    (*builder).wire,
		"probe":   (*builder).probe,
	}
	for _, l := range statements {
		b.at, b.words = l.Number, l.Words
		statement, is := known[l.Words[0]]
		need(is, api.ErrForm)
		statement(b)
	}
	b.at = 0
	need(len(b.net.Neurons) > 0, api.ErrArg)
}

// form makes sure that the words of the statement are as its parts say, one behind the other. Where a part has several
// choices, its first word tells which of them is there; capital letters stand for names and numbers, which are left to be
// read. It returns the first words of the parts that are there.
func (b *builder) form(parts ...string) []string {
	rest := b.words
	var first, open []string
	for _, part := range parts {
		words := choice(part, rest)
		need(words != nil && len(words) <= len(rest), api.ErrForm)
		first = append(first, words[0])
		for i, w := range words {
			if w[0] < 'a' {
				open = append(open, rest[i])
			} else {
				need(rest[i] == w, api.ErrForm)
			}
		}
		rest = rest[len(words):]
	}
	need(len(rest) == 0, api.ErrForm)
	b.words = open
	return first
}

// choice returns the words of that choice of a part that begins as the words that are there, or nil.
func choice(part string, there []string) []string {
	for _, c := range strings.Split(part, "|") {
		if words := strings.Fields(c); len(there) > 0 && there[0] == words[0] {
			return words
		}
	}
	return nil
}

// next returns the next word that is to be a name or a number.
func (b *builder) next() string {
	w := b.words[0]
	b.words = b.words[1:]
	return w
}

// number reads a number, or the name of a constant.
func (b *builder) number() int {
	w := b.next()
	if isName(w) {
		return b.lets.find(w)
	}
	n, is := numeral(w, -maxValue, maxValue)
	need(is, api.ErrForm)
	return n
}

// population reads the name of a population.
func (b *builder) population() Group {
	g := b.groups.find(b.next())
	need(!g.Input, api.ErrNone)
	return g
}

func (b *builder) let() {
	b.form("let NAME N")
	name := b.lets.fresh(b.next())
	b.lets.add(name, b.number())
}

func (b *builder) neuron() {
	parts := b.form("neuron KIND", "none | line L | share L", "bias B thresh T", "sub | to V", "floor F rest R")
	name := b.kinds.fresh(b.next())
	p := api.Params{LeakKind: api.LeakNone, ResetKind: api.ResetSub}
	switch parts[1] {
	case "line":
		p.LeakKind, p.Leak = api.LeakLine, b.number()
	case "share":
		p.LeakKind, p.Leak = api.LeakShare, b.number()
	}
	p.Bias, p.Thresh = b.number(), b.number()
	if parts[3] == "to" {
		p.ResetKind, p.Reset = api.ResetTo, b.number()
	}
	p.Floor, p.Rest = b.number(), b.number()
	b.kinds.room()
	e := neuron.Check(p)
	need(e == api.OK, e)
	b.kinds.add(name, p)
}

func (b *builder) pop() {
	b.form("pop POP N KIND")
	name, count, kind := b.groups.fresh(b.next()), b.number(), b.kinds.find(b.next())
	b.group(Group{Name: name, First: len(b.net.Neurons), Count: count}, api.MaxNeurons)
	for range count {
		b.net.Neurons = append(b.net.Neurons, kind)
	}
}

func (b *builder) input() {
	b.form("input IN N")
	name, count := b.groups.fresh(b.next()), b.number()
	b.group(Group{Name: name, Input: true, First: b.net.Inputs, Count: count}, api.MaxInputs)
	b.net.Inputs += count
}

// group defines a population or inputs, of which there can be so many.
func (b *builder) group(g Group, most int) {
	b.groups.room()
	need(g.Count >= 1, api.ErrRange)
	need(g.First+g.Count <= most, api.ErrMany)
	b.groups.add(g.Name, g)
}

func (b *builder) current() {
	b.form("current POP C")
	g, c := b.population(), b.number()
	l := b.net.Neurons[g.First : g.First+g.Count]
	for i := range l {
		l[i].Bias += c
		need(among(l[i].Bias, -api.MaxV, api.MaxV), api.ErrRange)
	}
}

func (b *builder) probe() {
	b.form("probe NAME POP")
	name, g := b.probes.fresh(b.next()), b.population()
	b.probes.add(name, Probe{Name: name, First: g.First, Count: g.Count})
}
