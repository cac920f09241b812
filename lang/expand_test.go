package lang_test

import (
	"slices"
	"strings"
	"testing"

	"ganglion/api"
	"ganglion/lang"
)

func TestP6_2Expand(t *testing.T) {
	for _, x := range []struct {
		s    string
		want []lang.Line
	}{
		{"", nil},
		{"a b # c\n\nd", []lang.Line{line(1, "a b"), line(3, "d")}},
		{"repeat i 0 2\nlet c{i} {i+5}\nend", []lang.Line{line(2, "let c0 5"), line(2, "let c1 6"), line(2, "let c2 7")}},
		{"repeat i 1 1\na\n\nb\nend\nc", []lang.Line{line(2, "a"), line(4, "b"), line(6, "c")}},
		{"repeat i 3 2\na {q\nend", nil},
		{"repeat i 1 2\nend\nend_ 1", []lang.Line{line(3, "end_ 1")}},
		{"repeat i -1 1\n{i}{i}x{i-1} {i+999} {i-999} {i+0} {i-0}\nend", []lang.Line{
			line(2, "-1-1x-2 998 -1000 -1 -1"), line(2, "00x-1 999 -999 0 0"), line(2, "11x0 1000 -998 1 1")}},
		{"repeat a 0 1\nrepeat b {a} {a+1}\nx {a} {b}\nend\ny {a}\nend", []lang.Line{
			line(3, "x 0 0"), line(3, "x 0 1"), line(5, "y 0"), line(3, "x 1 1"), line(3, "x 1 2"), line(5, "y 1")}},
		{"repeat i 0 0\n{i}\nend\nrepeat i 7 7\n{i}\nend", []lang.Line{line(2, "0"), line(5, "7")}},
		{"repeat i 0 1\nrepeat j{i} 5 6\n{i} z\nend\nend", []lang.Line{line(3, "0 z"), line(3, "0 z"), line(3, "1 z"), line(3, "1 z")}},
		{"repeat i 0 0\nrepeat j{i} 5 6\n{j0} {i}\nend\nend", []lang.Line{line(3, "5 0"), line(3, "6 0")}},
		{"repeat abcdefghi_12 999999 999999\n{abcdefghi_12+999}\nend", []lang.Line{line(2, "1000998")}},
		{"repeat i -999999 -999999\n{i-999}\nend", []lang.Line{line(2, "-1000998")}},
		{"repeat end 1 1\n{end} repeat end\nend", []lang.Line{line(2, "1 repeat end")}},
		{"x repeat\nx end 1\nrepeats i 0 1", []lang.Line{line(1, "x repeat"), line(2, "x end 1"), line(3, "repeats i 0 1")}},
	} {
		if l := expand(t, x.s); !sameLines(l, x.want) {
			t.Errorf("Expand(%q): %v, want %v", x.s, l, x.want)
		}
	}
}

// The lines repeat and end, which are looked at before any line is done.
func TestP6_2Pairs(t *testing.T) {
	const deepest = "repeat a 0 0\nrepeat b 0 0\nrepeat c 0 0\nrepeat d 0 0\n"
	checkWrong(t, []wrong{
		{"repeat i 0 1", 1, api.ErrForm},
		{"end", 1, api.ErrForm},
		{"a\nend\nrepeat i 0 1", 2, api.ErrForm},
		{"repeat i 0 1\nend\nend", 3, api.ErrForm},
		{"repeat i 0 1\nend x", 2, api.ErrForm},
		{"repeat i 0 1\nend 1", 2, api.ErrForm},
		{"repeat i 0 1\nrepeat j 0 1\n# x\n", 2, api.ErrForm},
		{"repeat i 0 1\nrepeat j 0 1\nend", 1, api.ErrForm},
		{"repeat i 0 1\nend\nrepeat j 0 1", 3, api.ErrForm},
		{"repeat i 0 1\nrepeat j 0 1\nend\nrepeat k 0 1", 4, api.ErrForm},
		{deepest + "repeat e 0 0", 5, api.ErrDeep},
		{deepest + "repeat", 5, api.ErrDeep},
		{deepest + "end\nrepeat e 0 0\nrepeat f 0 0", 7, api.ErrDeep},
		{deepest + "end\nend\nend\nend\nend", 9, api.ErrForm},
		{deepest + "end\nend", 2, api.ErrForm},
		{deepest + "end x\nrepeat e 0 0\nrepeat f 0 0", 5, api.ErrForm},
		{"repeat i 1 0\n" + deepest, 5, api.ErrDeep},
		// before the errors of lines that are done
		{"{\nend", 2, api.ErrForm},
		{"{i}\nrepeat", 2, api.ErrForm},
		{"repeat\n{i}\nrepeat", 3, api.ErrForm},
		{"repeat A 0 0\n" + deepest, 5, api.ErrDeep},
	})
	expand(t, deepest+"a\nend\nend\nend\nend")
	expand(t, deepest+"end\nrepeat e 0 0\nend\nend\nend\nend\nrepeat a 0 0\nend")
}

func TestP6_2Replacements(t *testing.T) {
	in := func(s string) string { return "repeat i 0 1\n" + s + "\nend" }
	var l []wrong
	for s, e := range map[string]api.Errno{
		"a {i": api.ErrForm, "a i}": api.ErrForm, "a } {": api.ErrForm, "a {": api.ErrForm, "a }": api.ErrForm,
		"a {i}}": api.ErrForm, "a {{i}": api.ErrForm, "a {{i}}": api.ErrForm, "a }{i}": api.ErrForm, "a {i }": api.ErrForm,
		"a {}": api.ErrForm, "a {I}": api.ErrForm, "a {1}": api.ErrForm, "a {i+}": api.ErrForm, "a {i-}": api.ErrForm,
		"a {+1}": api.ErrForm, "a {-1}": api.ErrForm, "a {i+1000}": api.ErrForm, "a {i-1000}": api.ErrForm,
		"a {i+01}": api.ErrForm, "a {i+00}": api.ErrForm, "a {i+-1}": api.ErrForm, "a {i--1}": api.ErrForm,
		"a {i-+1}": api.ErrForm, "a {i+-0}": api.ErrForm, "a {i+1+1}": api.ErrForm, "a {i-1+1}": api.ErrForm,
		"a {i*2}": api.ErrForm, "a {i+j}": api.ErrForm, "a {i+i}": api.ErrForm, "a {1+i}": api.ErrForm, "a {i+1.}": api.ErrForm,
		"a {i_}": api.ErrName, "a {_i}": api.ErrForm, "a {i+9999999999999999999999}": api.ErrForm,
		"a {abcdefghijklm}": api.ErrForm, "a {abcdefghijkl}": api.ErrName, "a {j}": api.ErrName, "a {j+1}": api.ErrName,
		"a {j+1000}": api.ErrForm, "a {ii}": api.ErrName,
		// the first one decides
		"a {j} {": api.ErrName, "a {j}{": api.ErrName, "a {j}}": api.ErrName, "a { {j}": api.ErrForm, "a }{j}": api.ErrForm,
		"a {i} {j} {k*}": api.ErrName, "a {k*} {j}": api.ErrForm, "{j} {": api.ErrName, "{ {j}": api.ErrForm,
	} {
		l = append(l, wrong{in(s), 2, e})
	}
	checkWrong(t, l)
	// A name stands for a number within its repeat only, and not in its line.
	checkWrong(t, []wrong{
		{"let a{i} 0", 1, api.ErrName},
		{"repeat i {i} 1\nend", 1, api.ErrName},
		{"repeat i 0 {i}\nend", 1, api.ErrName},
		{"repeat i 0 1\nend\n{i}", 3, api.ErrName},
		{"repeat i 0 1\nrepeat j 0 1\nend\n{j}\nend", 4, api.ErrName},
		{"repeat i 0 1\nrepeat j 1 0\nend\n{j}\nend", 4, api.ErrName},
		{"repeat i 0 1\nrepeat j{i} 0 1\n{j0}\nend\nend", 3, api.ErrName},
	})
}

func TestP6_2Repeats(t *testing.T) {
	checkWrong(t, []wrong{
		{"repeat\nend", 1, api.ErrForm},
		{"repeat i 0\nend", 1, api.ErrForm},
		{"repeat i 0 1 2\nend", 1, api.ErrForm},
		{"repeat I 0\nend", 1, api.ErrForm},
		{"repeat I 0 1\nend", 1, api.ErrName},
		{"repeat 1 0 1\nend", 1, api.ErrName},
		{"repeat abcdefghijklm 0 1\nend", 1, api.ErrName},
		{"repeat I x y\nend", 1, api.ErrName},
		{"repeat i 0 1\nrepeat i 0 1\nend\nend", 2, api.ErrHave},
		{"repeat i 0 1\nrepeat i x y\nend\nend", 2, api.ErrHave},
		{"repeat i 0 1\nrepeat j 0 1\nrepeat i 0 1\nend\nend\nend", 3, api.ErrHave},
		{"repeat i0 0 1\nrepeat j 0 1\nrepeat i{j} 0 1\nend\nend\nend", 3, api.ErrHave},
		{"repeat i 0 1\nrepeat i 0\nend\nend", 2, api.ErrForm},
		{"repeat i x 1\nend", 1, api.ErrForm},
		{"repeat i 0 x\nend", 1, api.ErrForm},
		{"repeat i 0 01\nend", 1, api.ErrForm},
		{"repeat i -0 1\nend", 1, api.ErrForm},
		{"repeat i +0 1\nend", 1, api.ErrForm},
		{"repeat i 0 1000000\nend", 1, api.ErrForm},
		{"repeat i -1000000 0\nend", 1, api.ErrForm},
		{"repeat i 1000000 0\nend", 1, api.ErrForm},
		{"repeat i 0 99999999999999999999\nend", 1, api.ErrForm},
		{"let c 1\nrepeat i 0 c\nend", 2, api.ErrForm},
		{"repeat i 999999 999999\nrepeat j 0 {i+1}\nend\nend", 2, api.ErrForm},
		{"a\nrepeat i{ 0\nend", 2, api.ErrForm},
		{"repeat {i} 0\nend", 1, api.ErrName},
		// the errors of a line come in the pass in which it is done
		{"repeat i 9 10\nrepeat j 1 {i-10}{i}\nend\nend", 2, api.ErrForm},
		{"repeat i 9 10\nrepeat j 1 {i-9}\nend\nrepeat j {i-9}0 1\nend\nend", 4, api.ErrForm},
		{"a {\nrepeat i 0 x\nend", 1, api.ErrForm},
		{"repeat i 0 x\na {\nend", 1, api.ErrForm},
	})
	for _, s := range []string{
		"repeat i 999999 -999999\nend", "repeat i -999999 -999999\nend", "repeat i 999999 999999\nend", "repeat repeat 0 0\nend",
		"repeat i 1 0\n{x} {\nrepeat i 0\nend\nrepeat I x y z\nend\nend",
		"repeat i 1 0\nrepeat i 0 1\nend\nend",
	} {
		if l := expand(t, s); len(l) != 0 {
			t.Errorf("Expand(%q): %v", s, l)
		}
	}
}

// Passes and statements are counted together, and the errors of a line before it is done come first.
func TestP6_2Steps(t *testing.T) {
	lines := strings.Repeat("a\n", lang.MaxSteps)
	checkWrong(t, []wrong{
		{lines + "a", lang.MaxSteps + 1, api.ErrMany},
		{lines + "{", lang.MaxSteps + 1, api.ErrForm},
		{lines + "{x}", lang.MaxSteps + 1, api.ErrName},
		{lines + "repeat i 0 0\nend", lang.MaxSteps + 1, api.ErrMany},
		{lines + "repeat i 0 x\nend", lang.MaxSteps + 1, api.ErrForm},
		{lines + "repeat i 0 1\n{\nend", lang.MaxSteps + 1, api.ErrMany},
		{"a\nrepeat i 1 4096\nend", 2, api.ErrMany},
		{"repeat i 1 4096\nend\na", 3, api.ErrMany},
		{"repeat i 1 2049\na\nend", 1, api.ErrMany},
		{"repeat i 1 2048\na\nend\na", 4, api.ErrMany},
		{"\nrepeat i 1 1366\na\nb\nend", 3, api.ErrMany},
		{"repeat i 1 64\nrepeat j 1 64\nend\nend", 2, api.ErrMany},
		{"repeat i 1 1\nrepeat j 1 2\nend\nrepeat k 1 4093\na\nend\nend", 5, api.ErrMany},
		{"repeat i -999999 999999\nend", 1, api.ErrMany},
		// the step that is too many comes before a later error
		{"repeat i 1 4097\nend\n{", 1, api.ErrMany},
	})
	for s, want := range map[string]int{
		lines: lang.MaxSteps, lines + "repeat i 1 0\na\nend\n": lang.MaxSteps,
		"repeat i 1 4096\nend": 0, "repeat i 1 2048\na\nend": 2048, "repeat i 1 1365\na\nb\nend\na": 2731, "repeat i 1 62\nrepeat j 1 64\nend\na\nend": 62,
		"repeat i 1 4095\nrepeat j 1 0\na\nend\nend\na": 1,
	} {
		if l := expand(t, s); len(l) != want {
			t.Errorf("Expand(%.40q): %d statements, want %d", s, len(l), want)
		}
	}
}

// Expand is what the definitions of repeats and names say, for texts that are mostly well-formed.
func TestP6_2ExpandModel(t *testing.T) {
	var g generator = 5
	failed, done := map[api.Errno]int{}, 0
	for range 6000 {
		s := g.nest()
		l, at, e := lang.Expand(s)
		want, wantAt, wantE := expandModel(s)
		if at != wantAt || e != wantE || !sameLines(l, want) {
			t.Fatalf("Expand(%q): %v, %d, %d, want %v, %d, %d", s, l, at, e, want, wantAt, wantE)
		}
		failed[e]++
		if len(l) > 5 {
			done++
		}
	}
	for _, e := range []api.Errno{api.OK, api.ErrForm, api.ErrName, api.ErrHave, api.ErrDeep, api.ErrMany} {
		if failed[e] < 100 {
			t.Errorf("the error %d only %d times", e, failed[e])
		}
	}
	if done < 1000 {
		t.Errorf("only %d texts have more than five statements", done)
	}
}

// nest draws a text of repeats and lines that use their names.
func (g *generator) nest() string {
	var l, open []string
	for range g.from(1, 20) {
		switch {
		case g.below(5) < 2 && len(open) < g.from(1, 5):
			name := g.one("i", "j", "k", "l", "m_1")
			for range 3 {
				if g.below(5) == 0 || !slices.Contains(open, name) {
					break
				}
				name = g.one("i", "j", "k", "l", "m_1", "n{i}")
			}
			l = append(l, "repeat "+name+" "+g.one("0", "1", "-1", g.use(open))+" "+g.one("0", "1", "2", "3", g.one("4", "70", "2000"), g.use(open)))
			open = append(open, name)
		case g.below(3) == 0 && len(open) > 0:
			l = append(l, "end")
			open = open[:len(open)-1]
		default:
			l = append(l, "x"+g.use(open)+" "+g.use(open)+g.use(open)+g.one("", "", "", "", "", "", "", "", "", "", "", "", g.one(odd...)))
		}
	}
	for range open {
		if g.below(30) > 0 {
			l = append(l, "end")
		}
	}
	if g.below(8) == 0 {
		return g.spoil(text(l...))
	}
	return text(l...)
}

// use draws a replacement of a name.
func (g *generator) use(open []string) string {
	if g.below(80) == 0 {
		return g.one("y", "{i}", "{j+1}")
	}
	if len(open) == 0 {
		return g.number(0, 3)
	}
	return "{" + g.one(open...) + g.one("", "", "+1", "-1", "+999", "-999", "+0", "-0") + "}"
}
