package lang

import (
	"strconv"
	"strings"

	"ganglion/api"
)

// The numbers of repeats, and those that are added to them.
const (
	maxNumber = 999999
	maxAdded  = 999
)

// Expand returns the statements of a text, with repeats done.
func Expand(text string) ([]Line, int, api.Errno) {
	lines, at, e := Read(text)
	if e != api.OK {
		return nil, at, e
	}
	x := &expansion{lines: lines, ends: make([]int, len(lines)), stands: map[string]int{}}
	e = caught(func() {
		x.pair()
		x.do(0, len(lines))
	})
	if e != api.OK {
		return nil, x.at, e
	}
	return x.statements, 0, api.OK
}

// expansion is how far the lines of a text are done.
type expansion struct {
	lines      []Line
	ends       []int          // for each line repeat, the index of the line end that belongs to it
	stands     map[string]int // for which numbers names stand
	at         int            // the number of the line that is looked at, or done
	steps      int            // how many passes and statements were begun
	statements []Line
}

// pair finds the lines end that belong to the lines repeat.
func (x *expansion) pair() {
	var open []int
	for i, l := range x.lines {
		x.at = l.Number
		switch l.Words[0] {
		case "repeat":
			need(len(open) < MaxDeep, api.ErrDeep)
			open = append(open, i)
		case "end":
			need(len(open) > 0 && len(l.Words) == 1, api.ErrForm)
			x.ends[open[len(open)-1]] = i
			open = open[:len(open)-1]
		}
	}
	if len(open) > 0 {
		x.at = x.lines[open[len(open)-1]].Number
		panic(api.ErrForm)
	}
}

// do does the lines from an index up to another one, which is not done.
func (x *expansion) do(from, to int) {
	for i := from; i < to; i++ {
		l := x.lines[i]
		x.at = l.Number
		words := x.replaced(l.Words)
		if words[0] == "repeat" {
			x.repeat(i, words)
			i = x.ends[i]
			continue
		}
		x.step()
		x.statements = append(x.statements, Line{Number: l.Number, Words: words})
	}
}

// repeat does the lines of a repeat, which begins at an index, for each of its numbers.
func (x *expansion) repeat(i int, words []string) {
	need(len(words) == 4, api.ErrForm)
	name := words[1]
	need(isName(name), api.ErrName)
	_, stands := x.stands[name]
	need(!stands, api.ErrHave)
	first, isFirst := numeral(words[2], -maxNumber, maxNumber)
	last, isLast := numeral(words[3], -maxNumber, maxNumber)
	need(isFirst && isLast, api.ErrForm)
	for n := first; n <= last; n++ {
		x.at = x.lines[i].Number
		x.step()
		x.stands[name] = n
		x.do(i+1, x.ends[i])
	}
	delete(x.stands, name)
}

// step begins a pass or a statement.
func (x *expansion) step() {
	need(x.steps < MaxSteps, api.ErrMany)
	x.steps++
}

// replaced returns words with numbers in place of the names that stand for them. These are always new, as a line can be
// done more than once.
func (x *expansion) replaced(words []string) []string {
	l := make([]string, len(words))
	for i, w := range words {
		l[i] = w
		if strings.ContainsAny(w, "{}") {
			l[i] = x.replace(w)
		}
	}
	return l
}

// replace returns a word with numbers in place of names.
func (x *expansion) replace(word string) string {
	var b strings.Builder
	for {
		before, behind, opened := strings.Cut(word, "{")
		need(!strings.Contains(before, "}"), api.ErrForm)
		b.WriteString(before)
		if !opened {
			return b.String()
		}
		inside, rest, closed := strings.Cut(behind, "}")
		need(closed, api.ErrForm)
		b.WriteString(strconv.Itoa(x.number(inside)))
		word = rest
	}
}

// number returns the number for which something between braces stands: a name, to which a number can be added.
func (x *expansion) number(s string) int {
	name, added := s, 0
	if i := strings.IndexAny(s, "+-"); i >= 0 {
		k, is := numeral(s[i+1:], 0, maxAdded)
		need(is, api.ErrForm)
		if s[i] == '-' {
			k = -k
		}
		name, added = s[:i], k
	}
	need(isName(name), api.ErrForm)
	n, stands := x.stands[name]
	need(stands, api.ErrName)
	return n + added
}
