package lang_test

import (
	"slices"
	"strconv"
	"strings"
)

// program is a program that is drawn, and what is defined in it.
type program struct {
	*generator
	lines  []string
	kinds  []string
	pops   []string
	groups []string
	lets   []string
	sizes  map[string]int
	random bool // whether it can use random rules and ranges
	count  int  // of the names
}

// program draws a program of some lines, which is valid but for a few numbers.
func (g *generator) program(lines int, random bool) *program {
	p := &program{generator: g, sizes: map[string]int{}, random: random}
	p.kind()
	p.pop()
	for range lines {
		p.line()
	}
	return p
}

func (p *program) text() string { return text(p.lines...) }

func (p *program) add(words ...string) { p.lines = append(p.lines, strings.Join(words, " ")) }

// name makes a new name, which is sometimes a word of the language.
func (p *program) name() string {
	p.count++
	if words := []string{"none", "sub", "to", "line", "weight", "all", "pop", "end", "repeat", "one", "k", "delay"}; p.count <= len(words) && p.below(4) == 0 {
		return words[p.count-1]
	}
	return p.generator.one("a", "b_", "pop", "x") + strconv.Itoa(p.count)
}

// value draws a number, or a constant that has a small one.
func (p *program) value(least, most int) string {
	if len(p.lets) > 0 && least <= 1 && most >= 3 && p.below(5) == 0 {
		return p.one(p.lets...)
	}
	return p.number(least, most)
}

func (p *program) kind() {
	name := p.name()
	words := []string{"neuron", name}
	switch p.below(3) {
	case 0:
		words = append(words, "none")
	case 1:
		words = append(words, "line", p.value(1, 50))
	case 2:
		words = append(words, "share", p.value(1, 256))
	}
	words = append(words, "bias", p.value(-5, 5), "thresh", p.number(4, 9))
	if p.below(2) == 0 {
		words = append(words, "sub")
	} else {
		words = append(words, "to", p.value(-3, 3))
	}
	p.add(append(words, "floor", p.number(-9, -3), "rest", p.value(0, 64))...)
	p.kinds = append(p.kinds, name)
}

func (p *program) pop() {
	name, n := p.name(), p.from(1, 6)
	p.add("pop", name, strconv.Itoa(n), p.one(p.kinds...))
	p.pops, p.groups, p.sizes[name] = append(p.pops, name), append(p.groups, name), n
}

func (p *program) line() {
	switch p.below(12) {
	case 0:
		name := p.name()
		p.add("let", name, p.number(1, 3))
		p.lets = append(p.lets, name)
	case 1:
		p.kind()
	case 2, 3:
		p.pop()
	case 4:
		name, n := p.name(), p.from(1, 6)
		p.add("input", name, strconv.Itoa(n))
		p.groups, p.sizes[name] = append(p.groups, name), n
	case 5:
		p.add("current", p.one(p.pops...), p.value(-9, 9))
	case 6:
		p.add("probe", p.name(), p.one(p.pops...))
	case 7:
		from, to := p.one(p.groups...), p.one(p.pops...)
		p.add("wire", from, p.number(0, p.sizes[from]-1), to, p.number(0, p.sizes[to]-1), "weight", p.value(-32768, 32768), "delay", p.value(1, 16))
	default:
		p.join()
	}
}

func (p *program) join() {
	from, to := p.one(p.groups...), p.one(p.pops...)
	rules := []string{"all", "others", "shift", "near"}
	if p.sizes[from] == p.sizes[to] {
		rules = append(rules, "one")
	}
	if p.random {
		rules = append(rules, "random", "pick")
	}
	words := []string{"join", from, to, p.one(rules...)}
	switch words[3] {
	case "shift":
		words = append(words, p.value(-20, 20))
	case "near":
		words = append(words, p.value(0, 7))
	case "random":
		words = append(words, p.one("0", "1", "64", "128", "255", "256"))
	case "pick":
		words = append(words, p.number(0, p.sizes[from]))
	}
	weight, delay := []int{p.from(-9, 9), p.from(-9, 9)}, []int{p.from(1, 16), p.from(1, 16)}
	slices.Sort(weight)
	slices.Sort(delay)
	if !p.random {
		weight[1], delay[1] = weight[0], delay[0]
	}
	p.add(append(words, "weight", strconv.Itoa(weight[0]), strconv.Itoa(weight[1]), "delay", strconv.Itoa(delay[0]), strconv.Itoa(delay[1]))...)
}

// loops are repeats behind small, which are valid.
var loops = []string{
	"repeat i 0 2\nlet c{i} {i+5}\nend",
	"repeat i 1 3\npop q{i} {i+1} a\njoin q{i} q{i} all weight {i} {i+3} delay 1 {i+1}\nend",
	"repeat i -2 2\njoin p p shift {i} weight {i-1} {i} delay 1 1\ncurrent p {i}\nend",
	"repeat i 0 2\nrepeat j {i} 2\nwire p {i} p {j} weight {j-2} delay {i+1}\nend\nend",
	"repeat i 5 4\nnothing {q\nend",
	"repeat n 0 1\nrepeat m{n} 1 2\nprobe s{n}_{m0} p\nend\nend",
	"repeat n 0 1\nrepeat m 1 2\nprobe s{n}_{m} p\nend\nend",
	"repeat n 0 1\nrepeat m 1 2\nprobe t{m}_{n} p\nrepeat l 3 4\nneuron v{n}{m}{l} none bias {n-{m}} thresh 5 sub floor 0 rest 0\nend\nend\nend",
	"repeat n 0 1\nrepeat m 1 2\nrepeat l 3 4\nrepeat k 5 5\nneuron v{n}{m}{l}{k} none bias {n-3} thresh {k} sub floor 0 rest {l+60}\nend\nend\nend\nend",
	"repeat i 0 1\nend",
	"repeat end 0 1\njoin p p random {end+20} weight 1 2 delay 1 2\nend",
	"repeat i 1 2\njoin x p pick {i} weight 1 2 delay 1 2\nend",
}

// spoil changes a word or a line of a text, if it can, mostly so that it is not valid.
func (g *generator) spoil(s string) string {
	l := strings.Split(s, "\n")
	i := g.below(len(l))
	words := strings.Fields(l[i])
	if len(words) == 0 {
		return s
	}
	k := g.below(len(words))
	switch g.below(10) {
	case 0:
		words = slices.Delete(words, k, k+1)
	case 1:
		words = slices.Insert(words, k, g.one(odd...))
	case 2:
		l = slices.Insert(l, g.below(len(l)), l[i])
	case 3:
		l = slices.Delete(l, i, i+1)
		return text(l...)
	case 4:
		other := strings.Fields(l[g.below(len(l))])
		if len(other) > 0 {
			words[k] = g.one(other...)
		}
	default:
		words[k] = g.one(odd...)
	}
	l[i] = strings.Join(words, " ")
	return text(l...)
}

// loosen draws spaces, empty lines and comments between the words of a text.
func (g *generator) loosen(s string) string {
	var b strings.Builder
	for _, line := range strings.Split(s, "\n") {
		for g.below(4) == 0 {
			b.WriteString(g.one("\n", "   \n", "# a b\n", "  #\t\x00\xff }{\n", "#end\n"))
		}
		b.WriteString(g.one("", "", " ", "    "))
		b.WriteString(strings.ReplaceAll(line, " ", g.one(" ", " ", "  ", "     ")))
		b.WriteString(g.one("", "", " ", " # and so on", " #x", "  ##"))
		b.WriteByte('\n')
	}
	return strings.TrimSuffix(b.String(), g.one("\n", ""))
}

// mixed draws a program with repeats, which is not always valid.
func (g *generator) mixed() string {
	s := small
	if g.below(2) == 0 {
		s += g.program(g.below(12), true).text() + "\n"
	}
	for range g.below(3) {
		s += g.one(loops...) + "\n"
	}
	for range g.below(3) {
		s += g.one(shapes[:len(shapes)-3]...) + "\n"
	}
	for g.below(3) == 0 {
		s = g.spoil(s)
	}
	return s
}
