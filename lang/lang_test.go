package lang_test

import (
	"slices"
	"strconv"
	"strings"
	"testing"

	"ganglion/api"
	"ganglion/lang"
)

// kind is the neuron of the chapter's examples.
const kind = "neuron a none bias 0 thresh 5 to 0 floor -4 rest 1"

// small is a text with one of each sort, to which a test adds a line.
const small = kind + "\npop p 3 a\ninput x 2\nlet c 1\nprobe r p\n"

// smallLines is how many lines it has.
const smallLines = 5

// text joins lines.
func text(l ...string) string { return strings.Join(l, "\n") }

// line is a line with these words.
func line(number int, words string) lang.Line {
	return lang.Line{Number: number, Words: strings.Fields(words)}
}

func sameLine(a, b lang.Line) bool { return a.Number == b.Number && slices.Equal(a.Words, b.Words) }

func sameLines(a, b []lang.Line) bool { return slices.EqualFunc(a, b, sameLine) }

// sameWords is sameLines but for the numbers.
func sameWords(a, b []lang.Line) bool {
	return slices.EqualFunc(a, b, func(x, y lang.Line) bool { return slices.Equal(x.Words, y.Words) })
}

func sameNet(a, b api.Net) bool {
	return slices.Equal(a.Neurons, b.Neurons) && a.Inputs == b.Inputs && slices.Equal(a.Synapses, b.Synapses)
}

func samePlan(a, b lang.Plan) bool {
	return sameNet(a.Net, b.Net) && slices.Equal(a.Groups, b.Groups) && slices.Equal(a.Probes, b.Probes)
}

func synapse(from, to, weight, delay int) api.Synapse {
	return api.Synapse{From: from, To: to, Weight: weight, Delay: delay}
}

// format, expand, build and write are the functions for arguments that are known to be valid.
func format(t *testing.T, s string) string {
	t.Helper()
	f, at, e := lang.Format(s)
	if e != api.OK || at != 0 {
		t.Fatalf("Format(%q): the error %d in the line %d", s, e, at)
	}
	return f
}

func expand(t *testing.T, s string) []lang.Line {
	t.Helper()
	l, at, e := lang.Expand(s)
	if e != api.OK || at != 0 {
		t.Fatalf("Expand(%q): the error %d in the line %d", s, e, at)
	}
	return l
}

func build(t *testing.T, s string, seed uint64) lang.Plan {
	t.Helper()
	p, at, e := lang.Build(s, seed)
	if e != api.OK || at != 0 {
		t.Fatalf("Build(%q, %d): the error %d in the line %d", s, seed, e, at)
	}
	return p
}

func write(t *testing.T, n api.Net) string {
	t.Helper()
	s, e := lang.Write(n)
	if e != api.OK {
		t.Fatalf("Write(%v): the error %d", n, e)
	}
	return s
}

// wrong is a text, its error, and the line of the error.
type wrong struct {
	s  string
	at int
	e  api.Errno
}

// checkWrong checks the errors of all functions that do a text as far as Expand does, and that there is nothing besides.
func checkWrong(t *testing.T, l []wrong) {
	t.Helper()
	for _, x := range l {
		if got, at, e := lang.Expand(x.s); len(got) != 0 || at != x.at || e != x.e {
			t.Errorf("Expand(%.60q): %d lines, %d, %d, want %d, %d", x.s, len(got), at, e, x.at, x.e)
		}
		if p, at, e := lang.Build(x.s, 1); !samePlan(p, lang.Plan{}) || at != x.at || e != x.e {
			t.Errorf("Build(%.60q): %d, %d, want %d, %d", x.s, at, e, x.at, x.e)
		}
	}
}

// generator is the generator of the document, so that every run of the tests has the same cases.
type generator uint64

func (g *generator) below(n int) int {
	*g = *g*6364136223846793005 + 1442695040888963407
	return int(uint64(*g) >> 33 % uint64(n))
}

func (g *generator) from(least, most int) int { return least + g.below(most-least+1) }

func (g *generator) one(l ...string) string { return l[g.below(len(l))] }

// number draws a numeral.
func (g *generator) number(least, most int) string { return strconv.Itoa(g.from(least, most)) }

// odd are words that are not valid in most places: names, numbers at and beyond bounds, words that look like such ones,
// and words of the language.
var odd = []string{
	"a", "p", "x", "c", "k0", "p0", "x0", "q", "abcdefghijkl", "abcdefghijklm", "A", "aB", "a_1", "_a", "1a", "a-b", "{i}", "{i+1}", "{j}", "{", "}", "{i", "i}", "{}", "{i+}", "{i+01}", "{i+1000}", "{i*2}", "#",
	"0", "1", "-1", "2", "3", "16", "17", "64", "65", "256", "257", "999", "1024", "1025", "32768", "32769", "-32768", "-32769", "999999", "1000000", "-999999", "-1000000", "1048576", "1048577", "-1048576", "-1048577", "2147483648", "2147483649", "-2147483648", "-2147483649", "9223372036854775807", "9223372036854775808", "-9223372036854775808", "-9223372036854775809", "100000000000000000000", "00", "01", "-0", "+1", "-", "--1", "1.", "1e3", "0x1", "1_0",
	"let", "neuron", "pop", "input", "current", "join", "wire", "probe", "repeat", "end", "none", "line", "share", "bias", "thresh", "sub", "to", "floor", "rest", "weight", "delay", "all", "others", "one", "shift", "near", "random", "pick",
}

// P0, R2: no text makes a function panic, and with an error there is nothing else.
func TestP0AnyTexts(t *testing.T) {
	var g generator = 1
	failed, built := map[api.Errno]int{}, 0
	for range 20000 {
		s := g.soup()
		checkAny(t, s)
		p, at, e := lang.Build(s, uint64(g.below(1<<30)))
		if e == api.OK {
			built++
			continue
		}
		failed[e]++
		if !samePlan(p, lang.Plan{}) || at > strings.Count(s, "\n")+1 || (at == 0) != (e == api.ErrArg) {
			t.Fatalf("Build(%q): %v, %d, %d", s, p, at, e)
		}
	}
	for _, e := range []api.Errno{api.ErrArg, api.ErrRange, api.ErrNone, api.ErrHave, api.ErrForm, api.ErrName} {
		if failed[e] < 20 {
			t.Errorf("the error %d only %d times", e, failed[e])
		}
	}
	if built < 20 {
		t.Errorf("only %d texts are programs", built)
	}
}

// checkAny checks that Read, Format and Expand return nothing besides an error, and errors that fit to each other.
func checkAny(t *testing.T, s string) {
	t.Helper()
	l, at, e := lang.Read(s)
	f, atF, eF := lang.Format(s)
	if at != atF || e != eF || e != api.OK && (len(l) != 0 || f != "") {
		t.Fatalf("Read and Format of %q: %v, %d, %d; %q, %d, %d", s, l, at, e, f, atF, eF)
	}
	x, atX, eX := lang.Expand(s)
	if e != api.OK && (atX != at || eX != e) || eX != api.OK && len(x) != 0 || eX == api.OK && atX != 0 {
		t.Fatalf("Expand of %q: %v, %d, %d", s, x, atX, eX)
	}
}

// soup draws a text of words that mostly do not belong together, or some bytes.
func (g *generator) soup() string {
	if g.below(10) == 0 {
		b := make([]byte, g.below(60))
		for i := range b {
			b[i] = byte(g.one("\n", " ", "{", "}", "#", "a", "1", string(rune(g.below(256))))[0])
		}
		return string(b)
	}
	var l []string
	if g.below(2) == 0 {
		l = append(l, strings.Split(strings.TrimSuffix(small, "\n"), "\n")[:g.below(smallLines+1)]...)
	}
	for range g.below(4) {
		var words []string
		if g.below(2) == 0 {
			words = strings.Fields(g.one(shapes...))
			words[g.below(len(words))] = g.one(odd...)
		} else {
			for range g.below(6) {
				words = append(words, g.one(odd...))
			}
		}
		l = append(l, strings.Join(words, g.one(" ", " ", "  ")))
	}
	return text(l...)
}

// shapes are lines that are valid behind small, or almost.
var shapes = []string{
	"let d 1", "let d c", "let C 1", "let c 2",
	"neuron b none bias 0 thresh 5 sub floor 0 rest 0", "neuron b line 1 bias 0 thresh 5 to 0 floor 0 rest 0", "neuron b share c bias 0 thresh 5 sub floor 0 rest 0", "neuron a none bias 0 thresh 5 sub floor 0 rest 0",
	"pop q 2 a", "pop q 2 b", "pop p 1 a", "pop q 0 a", "input y 3", "input x 3", "input y 257", "current p 9", "current x 9",
	"join x p all weight 1 1 delay 1 1", "join p p one weight 1 9 delay 1 9", "join x p pick 2 weight 1 1 delay 1 1", "join p p random 99 weight -1 1 delay 1 16", "join p p shift 1 weight 1 1 delay 1 1", "join x p one weight 1 1 delay 1 1",
	"wire x 1 p 2 weight 1 delay 1", "wire x 2 p 2 weight 1 delay 1", "probe s p", "probe r p", "repeat i 0 1", "repeat i 1 0", "end",
}

// P0: texts that ask for much are done too, in a time that their steps bound.
func TestP0LargeTexts(t *testing.T) {
	const most = "repeat i 1 4096\n"
	for name, x := range map[string]wrong{
		"repeats without passes": {most + strings.Repeat("repeat j 1 0\nend\n", 300) + "end", 0, api.OK},
		"long words":             {"repeat i 1 2048\n" + strings.Repeat("{i}", 1333) + "\nend", 0, api.OK},
		"many words":             {"repeat i 1 2048\n" + strings.Repeat("a ", 2000) + "\nend", 0, api.OK},
		"many lines":             {strings.Repeat("a\n", 4096), 0, api.OK},
		"one line more":          {strings.Repeat("a\n", 4097), 4097, api.ErrMany},
		"most repeats":           {strings.Repeat("repeat i 1 1\n", 5000), 5, api.ErrDeep},
		"most ends":              {strings.Repeat("end\n", 16000), 1, api.ErrForm},
		"most bytes":             {strings.Repeat("\n", api.MaxText), 0, api.OK},
		"deepest passes":         {"repeat i 1 9\nrepeat j 1 9\nrepeat k 1 9\nrepeat l 1 4\na\nend\nend\nend\nend", 5, api.ErrMany},
	} {
		if _, at, e := lang.Expand(x.s); at != x.at || e != x.e {
			t.Errorf("Expand of %s: %d, %d, want %d, %d", name, at, e, x.at, x.e)
		}
	}
	// More than a thousand million numbers are drawn here, of which none is needed.
	s := text(kind, "pop p 1024 a", strings.Repeat("join p p random 0 weight 1 1 delay 1 1\n", 1400))
	if p, at, e := lang.Build(s, 1); e != api.OK || at != 0 || len(p.Net.Synapses) != 0 {
		t.Errorf("Build of many random joins: %d, %d", at, e)
	}
}

// P0, R4: no two words of a result are in the same memory, and a result is not kept.
func TestP0Memory(t *testing.T) {
	const s = "repeat i 0 1\na b\nend\nc {d"
	l := expand(t, strings.TrimSuffix(s, "\nc {d"))
	l[0].Words[0] = "z"
	_ = append(l[0].Words, "y")
	if !slices.Equal(l[1].Words, []string{"a", "b"}) {
		t.Errorf("the statements of one line share their words: %v", l)
	}
	if again := expand(t, "a b"); !slices.Equal(again[0].Words, []string{"a", "b"}) {
		t.Errorf("Expand keeps what it returned: %v", again)
	}
	a, b := build(t, small, 1), build(t, small, 1)
	a.Net.Neurons[0].Bias, a.Groups[0].Name, a.Probes[0].Name = 9, "z", "z"
	if !samePlan(b, build(t, small, 1)) {
		t.Errorf("Build keeps what it returned: %v", b)
	}
	n := b.Net
	write(t, n)
	if !sameNet(n, build(t, small, 1).Net) {
		t.Errorf("Write changes its argument: %v", n)
	}
}
