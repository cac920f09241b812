package lang_test

import (
	"regexp"
	"slices"
	"strconv"
	"strings"

	"ganglion/api"
	"ganglion/lang"
	"ganglion/neuron"
)

// The model does a text as the chapter says it, word by word, with expressions where the program counts bytes. An error
// is kept with its line, and ends everything.
type model struct {
	at    int
	e     api.Errno
	steps int
	out   []lang.Line
}

// fail notes an error, if there is none yet.
func (m *model) fail(at int, e api.Errno) {
	if m.e == api.OK {
		m.at, m.e = at, e
	}
}

var (
	nameForm   = regexp.MustCompile(`^[a-z][a-z0-9_]{0,11}$`)
	numberForm = regexp.MustCompile(`^(0|-?[1-9][0-9]*)$`)
	wordForm   = regexp.MustCompile(`^[!-~]*$`)
	standsForm = regexp.MustCompile(`^([a-z][a-z0-9_]{0,11})(([+-])(0|[1-9][0-9]{0,2}))?$`)
)

// numberModel is a number as in R9, with at most so great an absolute value.
func numberModel(s string, most int) (int, bool) {
	if !numberForm.MatchString(s) || len(s) > 11 {
		return 0, false
	}
	n, _ := strconv.Atoi(s)
	return n, -most <= n && n <= most
}

func readModel(s string) ([]lang.Line, int, api.Errno) {
	if len(s) > api.MaxText {
		return nil, 0, api.ErrLong
	}
	var l []lang.Line
	for i, x := range strings.SplitAfter(s, "\n") {
		x = strings.TrimSuffix(x, "\n")
		if len(x) > api.MaxLine {
			return nil, i + 1, api.ErrLong
		}
		// A comment begins at the first # at the beginning of the line, or behind a space.
		if k := strings.Index(" "+x, " #"); k >= 0 {
			x = x[:k]
		}
		words := slices.DeleteFunc(strings.Split(x, " "), func(w string) bool { return w == "" })
		for _, w := range words {
			if !wordForm.MatchString(w) {
				return nil, i + 1, api.ErrForm
			}
		}
		if len(words) > 0 {
			l = append(l, lang.Line{Number: i + 1, Words: words})
		}
	}
	return l, 0, api.OK
}

// deep returns how many repeats are around the end of some lines, and the index of the last line that begins one of them.
func deep(l []lang.Line) (n, last int) {
	for i := len(l) - 1; i >= 0; i-- {
		switch l[i].Words[0] {
		case "end":
			// Leaps over the repeat that it ends.
			for open := 1; open > 0; {
				i--
				switch l[i].Words[0] {
				case "end":
					open++
				case "repeat":
					open--
				}
			}
		case "repeat":
			if n == 0 {
				last = i
			}
			n++
		}
	}
	return n, last
}

func expandModel(s string) ([]lang.Line, int, api.Errno) {
	l, at, e := readModel(s)
	if e != api.OK {
		return nil, at, e
	}
	for i, x := range l {
		around, _ := deep(l[:i])
		if x.Words[0] == "repeat" && around == lang.MaxDeep {
			return nil, x.Number, api.ErrDeep
		}
		if x.Words[0] == "end" && (around == 0 || len(x.Words) > 1) {
			return nil, x.Number, api.ErrForm
		}
	}
	if n, last := deep(l); n > 0 {
		return nil, l[last].Number, api.ErrForm
	}
	m := &model{}
	m.lines(l, nil)
	if m.e != api.OK {
		return nil, m.at, m.e
	}
	return m.out, 0, api.OK
}

// standing is a name that stands for a number.
type standing struct {
	name   string
	number int
}

// lines does lines one by one.
func (m *model) lines(l []lang.Line, around []standing) {
	for len(l) > 0 && m.e == api.OK {
		words := m.words(l[0], around)
		if m.e != api.OK {
			return
		}
		if words[0] != "repeat" {
			m.begin(l[0].Number)
			m.out = append(m.out, lang.Line{Number: l[0].Number, Words: words})
			l = l[1:]
			continue
		}
		end := 1
		for n, _ := deep(l[:end+1]); n > 0; n, _ = deep(l[:end+1]) {
			end++
		}
		m.repeat(l[0].Number, words, l[1:end], around)
		l = l[end+1:]
	}
}

// begin counts a pass or a statement.
func (m *model) begin(at int) {
	if m.steps == lang.MaxSteps {
		m.fail(at, api.ErrMany)
	}
	m.steps++
}

func (m *model) repeat(at int, words []string, inside []lang.Line, around []standing) {
	if len(words) != 4 {
		m.fail(at, api.ErrForm)
		return
	}
	if !nameForm.MatchString(words[1]) {
		m.fail(at, api.ErrName)
	}
	for _, x := range around {
		if x.name == words[1] {
			m.fail(at, api.ErrHave)
		}
	}
	from, isFrom := numberModel(words[2], 999999)
	to, isTo := numberModel(words[3], 999999)
	if !isFrom || !isTo {
		m.fail(at, api.ErrForm)
	}
	for n := from; n <= to && m.e == api.OK; n++ {
		m.begin(at)
		if m.e == api.OK {
			m.lines(inside, append(slices.Clone(around), standing{words[1], n}))
		}
	}
}

// words makes the replacements of a line, brace by brace.
func (m *model) words(l lang.Line, around []standing) []string {
	var out []string
	for _, w := range l.Words {
		done := ""
		for w != "" && m.e == api.OK {
			if w[0] == '}' {
				m.fail(l.Number, api.ErrForm)
			} else if w[0] != '{' {
				done, w = done+w[:1], w[1:]
			} else if end := strings.IndexByte(w, '}'); end < 0 {
				m.fail(l.Number, api.ErrForm)
			} else {
				done, w = done+m.standsFor(l.Number, w[1:end], around), w[end+1:]
			}
		}
		out = append(out, done)
	}
	return out
}

func (m *model) standsFor(at int, s string, around []standing) string {
	x := standsForm.FindStringSubmatch(s)
	if x == nil {
		m.fail(at, api.ErrForm)
		return ""
	}
	k, _ := strconv.Atoi(x[2])
	for _, a := range around {
		if a.name == x[1] {
			return strconv.Itoa(a.number + k)
		}
	}
	m.fail(at, api.ErrName)
	return ""
}

// tables are the statements of the chapter, each with all its forms. A word with + is a name that is defined, one with -
// a name that is used, and # is a number.
var tables = []string{
	"let +let #", "pop +group # -kind", "input +group #", "current -pop #", "probe +probe -pop", "wire -group # -pop # weight # delay #",
	"neuron +kind none bias # thresh # sub floor # rest #", "neuron +kind line # bias # thresh # sub floor # rest #", "neuron +kind share # bias # thresh # sub floor # rest #",
	"neuron +kind none bias # thresh # to # floor # rest #", "neuron +kind line # bias # thresh # to # floor # rest #", "neuron +kind share # bias # thresh # to # floor # rest #",
	"join -group -pop all weight # # delay # #", "join -group -pop others weight # # delay # #", "join -group -pop one weight # # delay # #",
	"join -group -pop shift # weight # # delay # #", "join -group -pop near # weight # # delay # #", "join -group -pop random # weight # # delay # #", "join -group -pop pick # weight # # delay # #",
}

// buildModel is Build, on what expandModel returns.
type buildModel struct {
	plan   lang.Plan
	kinds  []api.Params
	lets   []int
	names  map[string]int // the index of what has a sort and a name
	random generator
}

func planModel(s string, seed uint64) (lang.Plan, int, api.Errno) {
	l, at, e := expandModel(s)
	if e != api.OK {
		return lang.Plan{}, at, e
	}
	b := &buildModel{names: map[string]int{}, random: generator(seed)}
	for _, x := range l {
		if e := b.statement(x.Words); e != api.OK {
			return lang.Plan{}, x.Number, e
		}
	}
	if len(b.plan.Net.Neurons) == 0 {
		return lang.Plan{}, 0, api.ErrArg
	}
	return b.plan, 0, api.OK
}

// matches reports whether words are as a row of the table says.
func matches(row, words []string) bool {
	return slices.EqualFunc(row, words, func(x, w string) bool { return strings.ContainsAny(x[:1], "+-#") || x == w })
}

func (b *buildModel) statement(words []string) api.Errno {
	var row []string
	for _, x := range tables {
		if matches(strings.Fields(x), words) {
			row = strings.Fields(x)
		}
	}
	if row == nil {
		return api.ErrForm
	}
	var numbers, used []int
	var defined string
	for i, x := range row {
		w := words[i]
		switch x[0] {
		case '+':
			if !nameForm.MatchString(w) {
				return api.ErrName
			}
			if _, has := b.names[x[1:]+" "+w]; has {
				return api.ErrHave
			}
			defined = w
		case '-':
			k, has := b.names[strings.Replace(x[1:], "pop", "group", 1)+" "+w]
			if !has || x == "-pop" && b.plan.Groups[k].Input {
				return api.ErrNone
			}
			used = append(used, k)
		case '#':
			n, e := b.number(w)
			if e != api.OK {
				return e
			}
			numbers = append(numbers, n)
		}
	}
	return b.do(words, row, defined, numbers, used)
}

func (b *buildModel) number(w string) (int, api.Errno) {
	if k, has := b.names["let "+w]; has {
		return b.lets[k], api.OK
	}
	if nameForm.MatchString(w) {
		return 0, api.ErrNone
	}
	n, is := numberModel(w, 1<<31)
	if !is {
		return 0, api.ErrForm
	}
	return n, api.OK
}

// do does a statement whose words are as they should be: a name that it defines, its numbers, and the indexes of what it
// uses.
func (b *buildModel) do(words, row []string, defined string, numbers, used []int) api.Errno {
	switch words[0] {
	case "let":
		if len(b.lets) == 64 {
			return api.ErrMany
		}
		b.names["let "+defined] = len(b.lets)
		b.lets = append(b.lets, numbers[0])
	case "neuron":
		return b.neuron(words, row, defined)
	case "pop":
		return b.group(lang.Group{Name: defined, First: len(b.plan.Net.Neurons), Count: numbers[0]}, 1024, used)
	case "input":
		return b.group(lang.Group{Name: defined, Input: true, First: b.plan.Net.Inputs, Count: numbers[0]}, 256, used)
	case "current":
		g := b.plan.Groups[used[0]]
		for i := g.First; i < g.First+g.Count; i++ {
			bias := b.plan.Net.Neurons[i].Bias + numbers[0]
			if bias < -(1<<20) || bias > 1<<20 {
				return api.ErrRange
			}
			b.plan.Net.Neurons[i].Bias = bias
		}
	case "probe":
		if len(b.plan.Probes) == 64 {
			return api.ErrMany
		}
		g := b.plan.Groups[used[0]]
		b.names["probe "+defined] = 0
		b.plan.Probes = append(b.plan.Probes, lang.Probe{Name: defined, First: g.First, Count: g.Count})
	case "wire":
		from, to := b.plan.Groups[used[0]], b.plan.Groups[used[1]]
		i, j, a, c := numbers[0], numbers[1], numbers[2], numbers[3]
		if i < 0 || i >= from.Count || j < 0 || j >= to.Count || !synapseModel(a, a, c, c) {
			return api.ErrRange
		}
		return b.synapse(from, to, i, j, a, c)
	case "join":
		return b.join(words[3], b.plan.Groups[used[0]], b.plan.Groups[used[1]], numbers)
	}
	return api.OK
}

func (b *buildModel) neuron(words, row []string, defined string) api.Errno {
	p := api.Params{LeakKind: slices.Index([]string{"none", "line", "share"}, words[2]), ResetKind: api.ResetTo}
	if slices.Contains(row, "sub") {
		p.ResetKind = api.ResetSub
	}
	for i, x := range row {
		if x != "#" {
			continue
		}
		n, _ := b.number(words[i])
		switch row[i-1] {
		case "line", "share":
			p.Leak = n
		case "bias":
			p.Bias = n
		case "thresh":
			p.Thresh = n
		case "to":
			p.Reset = n
		case "floor":
			p.Floor = n
		case "rest":
			p.Rest = n
		}
	}
	if len(b.kinds) == 64 {
		return api.ErrMany
	}
	if e := neuron.Check(p); e != api.OK {
		return e
	}
	b.names["kind "+defined] = len(b.kinds)
	b.kinds = append(b.kinds, p)
	return api.OK
}

func (b *buildModel) group(g lang.Group, most int, used []int) api.Errno {
	if len(b.plan.Groups) == 64 {
		return api.ErrMany
	}
	if g.Count < 1 {
		return api.ErrRange
	}
	if g.First+g.Count > most {
		return api.ErrMany
	}
	b.names["group "+g.Name] = len(b.plan.Groups)
	b.plan.Groups = append(b.plan.Groups, g)
	if g.Input {
		b.plan.Net.Inputs += g.Count
		return api.OK
	}
	b.plan.Net.Neurons = append(b.plan.Net.Neurons, slices.Repeat([]api.Params{b.kinds[used[0]]}, g.Count)...)
	return api.OK
}

// synapseModel reports whether weights from a to b and delays from c to d are valid.
func synapseModel(a, b, c, d int) bool {
	return -(1<<15) <= a && a <= b && b <= 1<<15 && 1 <= c && c <= d && d <= 16
}

func (b *buildModel) synapse(from, to lang.Group, i, j, weight, delay int) api.Errno {
	if len(b.plan.Net.Synapses) == 8192 {
		return api.ErrMany
	}
	source := from.First + i
	if from.Input {
		source = -1 - (from.First + i)
	}
	b.plan.Net.Synapses = append(b.plan.Net.Synapses, synapse(source, to.First+j, weight, delay))
	return api.OK
}

func (b *buildModel) join(rule string, from, to lang.Group, numbers []int) api.Errno {
	k, l := 0, numbers[len(numbers)-4:]
	if len(numbers) == 5 {
		k = numbers[0]
	}
	if (rule == "near" || rule == "pick") && k < 0 || rule == "random" && (k < 0 || k > 256) || !synapseModel(l[0], l[1], l[2], l[3]) {
		return api.ErrRange
	}
	if rule == "one" && from.Count != to.Count || rule == "pick" && k > from.Count {
		return api.ErrShape
	}
	for j := range to.Count {
		picked := make([]bool, from.Count)
		for x := 0; rule == "pick" && x < k; x++ {
			b.pick(picked, from.Count-x)
		}
		for i := range from.Count {
			if !b.chosen(rule, k, i, j, from.Count, picked) {
				continue
			}
			weight := b.between(l[0], l[1])
			delay := b.between(l[2], l[3])
			if e := b.synapse(from, to, i, j, weight, delay); e != api.OK {
				return e
			}
		}
	}
	return api.OK
}

// pick picks one of those that are not picked yet, of which there are so many.
func (b *buildModel) pick(picked []bool, left int) {
	index := b.random.below(left)
	for i := range picked {
		if picked[i] {
			continue
		}
		if index == 0 {
			picked[i] = true
			return
		}
		index--
	}
}

// chosen reports whether a rule makes a synapse from i to j.
func (b *buildModel) chosen(rule string, k, i, j, n int, picked []bool) bool {
	switch rule {
	case "others":
		return i != j
	case "one":
		return i == j
	case "shift":
		return (j-k-i)%n == 0
	case "near":
		return i-j <= k && j-i <= k
	case "random":
		return b.random.below(256) < k
	case "pick":
		return picked[i]
	}
	return true
}

func (b *buildModel) between(least, most int) int {
	if least == most {
		return least
	}
	return least + b.random.below(most-least+1)
}
