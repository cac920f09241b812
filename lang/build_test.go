package lang_test

import (
	"slices"
	"strconv"
	"strings"
	"testing"

	"ganglion/api"
	"ganglion/lang"
)

// checkLast checks the errors of a line behind small, in which c is a constant, a a kind, p a population, x inputs, and r
// a probe.
func checkLast(t *testing.T, l map[string]api.Errno) {
	t.Helper()
	for s, want := range l {
		p, at, e := lang.Build(small+s, 1)
		if e != want || e == api.OK && at != 0 || e != api.OK && (at != smallLines+1 || !samePlan(p, lang.Plan{})) {
			t.Errorf("Build with %q: %v, %d, %d, want the error %d", s, p, at, e, want)
		}
	}
}

func TestP6_3Forms(t *testing.T) {
	valid := []string{
		"let d 1", "neuron b none bias 0 thresh 5 to 0 floor 0 rest 0", "neuron b line 1 bias 0 thresh 5 sub floor 0 rest 0", "neuron b share 1 bias 0 thresh 5 to 0 floor 0 rest 0",
		"pop q 1 a", "input y 1", "current p 1", "wire x 0 p 0 weight 1 delay 1", "probe s p",
		"join x p all weight 1 1 delay 1 1", "join x p others weight 1 1 delay 1 1", "join p p one weight 1 1 delay 1 1", "join x p shift 1 weight 1 1 delay 1 1",
		"join x p near 1 weight 1 1 delay 1 1", "join x p random 1 weight 1 1 delay 1 1", "join x p pick 1 weight 1 1 delay 1 1",
	}
	own := strings.Fields("let neuron pop input current join wire probe none line share bias thresh sub to floor rest weight delay all others one shift near random pick")
	l := map[string]api.Errno{}
	for _, s := range valid {
		l[s] = api.OK
		words := strings.Fields(s)
		for i, w := range words {
			// Each line one word shorter and longer, and each word of the language spelt in another way.
			l[text(words[0]+" 1 "+strings.Join(words[1:], " "))] = api.ErrForm
			l[s+" 1"] = api.ErrForm
			l[strings.Join(words[:i], " ")+" "+strings.Join(words[i+1:], " ")] = api.ErrForm
			if slices.Contains(own, w) {
				for _, x := range []string{w + "s", strings.ToUpper(w), "1", "c", "a"} {
					l[strings.Join(slices.Concat(words[:i], []string{x}, words[i+1:]), " ")] = api.ErrForm
				}
			}
		}
	}
	delete(l, " ")
	checkLast(t, l)
	checkLast(t, map[string]api.Errno{
		"lets d 1": api.ErrForm, "x": api.ErrForm, "0": api.ErrForm, "let": api.ErrForm, "join x p": api.ErrForm, "neuron b": api.ErrForm,
		"neuron b none 1 bias 0 thresh 5 to 0 floor 0 rest 0": api.ErrForm, "neuron b line bias 0 thresh 5 to 0 floor 0 rest 0": api.ErrForm,
		"neuron b share bias 0 thresh 5 sub floor 0 rest 0": api.ErrForm, "neuron b none bias 0 thresh 5 sub 0 floor 0 rest 0": api.ErrForm,
		"neuron b none bias 0 thresh 5 to floor 0 rest 0": api.ErrForm, "neuron b odd bias 0 thresh 5 sub floor 0 rest 0": api.ErrForm,
		"neuron b none thresh 5 bias 0 sub floor 0 rest 0": api.ErrForm, "neuron b none bias 0 thresh 5 floor 0 rest 0": api.ErrForm,
		"join x p all 1 weight 1 1 delay 1 1": api.ErrForm, "join x p shift weight 1 1 delay 1 1": api.ErrForm, "join x p weight 1 1 delay 1 1": api.ErrForm,
		"join x p all delay 1 1 weight 1 1": api.ErrForm, "join x p one 1 weight 1 1 delay 1 1": api.ErrForm, "wire x 0 p 0 delay 1 weight 1": api.ErrForm,
		// before the errors of names and numbers
		"let C 01 2": api.ErrForm, "pop P q": api.ErrForm, "pop p 1 a a": api.ErrForm, "wire q 0 q 0 weight 1 1 delay 1": api.ErrForm, "join q q each weight z z delay z z": api.ErrForm, "neuron a none bias 01 thresh 5 sub floor 0 rest": api.ErrForm,
	})
}

func TestP6_3Names(t *testing.T) {
	const twelve = "abcdefghij_1"
	checkLast(t, map[string]api.Errno{
		"let C 1": api.ErrName, "let 1 1": api.ErrName, "let _d 1": api.ErrName, "let d- 1": api.ErrName, "let dE 1": api.ErrName, "let d. 1": api.ErrName, "let " + twelve + "2 1": api.ErrName, "let " + twelve + " 1": api.OK, "let z9_ 1": api.OK,
		"neuron B none bias 0 thresh 5 sub floor 0 rest 0": api.ErrName, "pop Q 1 a": api.ErrName, "input Y 1": api.ErrName, "probe S p": api.ErrName,
		"let c 1": api.ErrHave, "neuron a none bias 0 thresh 5 sub floor 0 rest 0": api.ErrHave, "pop p 1 a": api.ErrHave, "pop x 1 a": api.ErrHave, "input x 1": api.ErrHave, "input p 1": api.ErrHave, "probe r p": api.ErrHave,
		// one sort beside the others
		"let a 1": api.OK, "let p 1": api.OK, "let x 1": api.OK, "let r 1": api.OK, "pop a 1 a": api.OK, "pop c 1 a": api.OK, "input r 1": api.OK, "probe p p": api.OK, "probe a p": api.OK, "neuron p none bias 0 thresh 5 sub floor 0 rest 0": api.OK, "neuron c none bias 0 thresh 5 sub floor 0 rest 0": api.OK,
		"let let 1": api.OK, "pop pop 1 a": api.OK, "let end 1": api.OK,
		"pop q 1 b": api.ErrNone, "pop q 1 p": api.ErrNone, "pop q 1 A": api.ErrNone, "pop q 1 1": api.ErrNone, "current q 1": api.ErrNone, "current x 1": api.ErrNone, "current 0 1": api.ErrNone, "probe s q": api.ErrNone, "probe s x": api.ErrNone, "probe s r": api.ErrNone, "probe s P": api.ErrNone,
		"wire q 0 p 0 weight 1 delay 1": api.ErrNone, "wire x 0 q 0 weight 1 delay 1": api.ErrNone, "wire x 0 x 0 weight 1 delay 1": api.ErrNone, "wire p 0 x 0 weight 1 delay 1": api.ErrNone, "wire 0 0 p 0 weight 1 delay 1": api.ErrNone, "wire a 0 p 0 weight 1 delay 1": api.ErrNone,
		"join q p all weight 1 1 delay 1 1": api.ErrNone, "join x x all weight 1 1 delay 1 1": api.ErrNone, "join p x all weight 1 1 delay 1 1": api.ErrNone, "join p q all weight 1 1 delay 1 1": api.ErrNone,
	})
	// A statement can use what was defined before it only.
	for _, x := range []wrong{
		{"pop p 1 a\n" + kind, 1, api.ErrNone}, {kind + "\npop p c a\nlet c 1", 2, api.ErrNone}, {"current p 1\n" + small, 1, api.ErrNone},
		{"let a 1\n\n# b\nlet a 2", 4, api.ErrHave}, {"let a a", 1, api.ErrNone}, {"let x y", 1, api.ErrNone}, {"pop p", 1, api.ErrForm},
	} {
		if _, at, e := lang.Build(x.s, 1); at != x.at || e != x.e {
			t.Errorf("Build(%q): %d, %d, want %d, %d", x.s, at, e, x.at, x.e)
		}
	}
}

func TestP6_3Numbers(t *testing.T) {
	l := map[string]api.Errno{}
	for _, w := range odd {
		want := api.ErrForm
		n, e := strconv.Atoi(w)
		switch {
		case w == "c":
			want = api.OK
		case nameForm.MatchString(w):
			want = api.ErrNone
		case strings.ContainsAny(w, "{}#"):
			continue
		case e == nil && strconv.Itoa(n) == w && -(1<<31) <= n && n <= 1<<31:
			want = api.OK
		}
		l["let d "+w] = want
	}
	checkLast(t, l)
	// Each number of each statement is one of these, and can be a constant.
	for _, s := range []string{
		"let d 1", "neuron b line 1 bias 1 thresh 1 to 1 floor 1 rest 1", "neuron b share 1 bias 1 thresh 1 sub floor 1 rest 1", "pop q 1 a", "input y 1", "current p 1", "wire x 1 p 1 weight 1 delay 1",
		"join x p all weight 1 1 delay 1 1", "join x p shift 1 weight 1 1 delay 1 1", "join x p near 1 weight 1 1 delay 1 1", "join x p random 1 weight 1 1 delay 1 1", "join x p pick 1 weight 1 1 delay 1 1",
	} {
		words := strings.Fields(s)
		for i, w := range words {
			if w != "1" {
				continue
			}
			for x, want := range map[string]api.Errno{"01": api.ErrForm, "-0": api.ErrForm, "2147483649": api.ErrForm, "C": api.ErrForm, "d": api.ErrNone, "p": api.ErrNone, "a": api.ErrNone} {
				checkLast(t, map[string]api.Errno{strings.Join(slices.Concat(words[:i], []string{x}, words[i+1:]), " "): want})
			}
			_, at, e := lang.Build(small+strings.Join(slices.Concat(words[:i], []string{"c"}, words[i+1:]), " "), 1)
			wantAt, _, wantE := 0, 0, api.OK
			if _, wantAt, wantE = lang.Build(small+s, 1); at != wantAt || e != wantE {
				t.Errorf("Build with %q, and c in place of %d: %d, %d, want %d, %d", s, i, at, e, wantAt, wantE)
			}
		}
	}
}

// Of several words with an error the first one decides, and it comes before all limits.
func TestP6_3Order(t *testing.T) {
	checkLast(t, map[string]api.Errno{
		"let C 01": api.ErrName, "let c 01": api.ErrHave, "let c y": api.ErrHave, "let d 01": api.ErrForm,
		"neuron a none bias x thresh 5 sub floor 0 rest 0": api.ErrHave, "neuron B none bias x thresh 5 sub floor 0 rest 0": api.ErrName, "neuron b line x bias 01 thresh 5 sub floor 0 rest 0": api.ErrNone, "neuron b line 01 bias x thresh 5 sub floor 0 rest 0": api.ErrForm,
		"neuron b none bias x thresh 01 sub floor 0 rest 0": api.ErrNone, "neuron b none bias 01 thresh x sub floor 0 rest 0": api.ErrForm, "neuron b none bias 0 thresh 01 to x floor 0 rest 0": api.ErrForm, "neuron b none bias 0 thresh x to 01 floor 0 rest 0": api.ErrNone,
		"neuron b none bias 0 thresh 0 to 01 floor x rest 0": api.ErrForm, "neuron b none bias 0 thresh 0 to x floor 01 rest 0": api.ErrNone, "neuron b none bias 0 thresh 0 sub floor x rest 01": api.ErrNone, "neuron b none bias 0 thresh 0 sub floor 01 rest x": api.ErrForm, "neuron b none bias 0 thresh 0 sub floor 0 rest x": api.ErrNone,
		"pop p 01 b": api.ErrHave, "pop Q 01 b": api.ErrName, "pop q 01 b": api.ErrForm, "pop q 0 b": api.ErrNone, "pop q x a": api.ErrNone, "pop q 2000 b": api.ErrNone,
		"input x 01": api.ErrHave, "input Y 01": api.ErrName, "input y 01": api.ErrForm, "current q 01": api.ErrNone, "current p 01": api.ErrForm, "probe r q": api.ErrHave, "probe R q": api.ErrName,
		"join q p near 01 weight 1 1 delay 1 1": api.ErrNone, "join x q near 01 weight 1 1 delay 1 1": api.ErrNone, "join x p near 01 weight y 1 delay 1 1": api.ErrForm, "join x p near y weight 01 1 delay 1 1": api.ErrNone,
		"join x p near -1 weight y 01 delay 1 1": api.ErrNone, "join x p near -1 weight 01 y delay 1 1": api.ErrForm, "join x p near -1 weight 1 y delay 01 1": api.ErrNone, "join x p near -1 weight 1 01 delay y 1": api.ErrForm, "join x p one weight 1 1 delay 1 y": api.ErrNone, "join x p one weight 1 1 delay y 01": api.ErrNone, "join x p one weight 1 1 delay 01 y": api.ErrForm,
		"wire q 01 p 0 weight 1 delay 1": api.ErrNone, "wire x 01 q 0 weight 1 delay 1": api.ErrForm, "wire x y q 01 weight 1 delay 1": api.ErrNone, "wire x 9 q 01 weight 1 delay 1": api.ErrNone, "wire x 9 p 01 weight y delay 1": api.ErrForm, "wire x 9 p y weight 01 delay 1": api.ErrNone, "wire x 9 p 9 weight 01 delay y": api.ErrForm, "wire x 9 p 9 weight y delay 01": api.ErrNone, "wire x 9 p 9 weight 0 delay 01": api.ErrForm,
	})
	// The first statement decides, but all errors of Expand come before.
	for _, x := range []wrong{
		{"let C 1\nlet 1", 1, api.ErrName}, {"let 1\nlet C 1", 1, api.ErrForm}, {"let C 1\n{i}", 2, api.ErrName}, {"x\nend", 2, api.ErrForm}, {"x\ny\tz", 2, api.ErrForm},
		{"repeat i 0 1\nlet a{i} {i}\nlet b 1\nend", 3, api.ErrHave}, {"repeat i 0 1\nlet b{i} 1\nx\nend", 3, api.ErrForm},
	} {
		if _, at, e := lang.Build(x.s, 1); at != x.at || e != x.e {
			t.Errorf("Build(%q): %d, %d, want %d, %d", x.s, at, e, x.at, x.e)
		}
	}
}

func TestP6_4Neurons(t *testing.T) {
	checkLast(t, map[string]api.Errno{
		"neuron b none bias 1048576 thresh 1048576 to 1048575 floor -1048576 rest 64": api.OK, "neuron b none bias 1048577 thresh 1 sub floor 0 rest 0": api.ErrRange, "neuron b none bias -1048576 thresh 1 sub floor 0 rest 0": api.OK, "neuron b none bias -1048577 thresh 1 sub floor 0 rest 0": api.ErrRange,
		"neuron b none bias 0 thresh 0 sub floor 0 rest 0": api.ErrRange, "neuron b none bias 0 thresh 1048577 sub floor 0 rest 0": api.ErrRange, "neuron b none bias 0 thresh 5 to 5 floor 0 rest 0": api.ErrRange, "neuron b none bias 0 thresh 5 to -1 floor 0 rest 0": api.ErrRange, "neuron b none bias 0 thresh 5 sub floor 1 rest 0": api.ErrRange, "neuron b none bias 0 thresh 5 sub floor 0 rest 65": api.ErrRange, "neuron b none bias 0 thresh 5 sub floor 0 rest -1": api.ErrRange,
		"neuron b line 0 bias 0 thresh 5 sub floor 0 rest 0": api.ErrRange, "neuron b line 1048576 bias 0 thresh 5 sub floor 0 rest 0": api.OK, "neuron b line 1048577 bias 0 thresh 5 sub floor 0 rest 0": api.ErrRange, "neuron b share 256 bias 0 thresh 5 sub floor 0 rest 0": api.OK, "neuron b share 257 bias 0 thresh 5 sub floor 0 rest 0": api.ErrRange, "neuron b share 0 bias 0 thresh 5 sub floor 0 rest 0": api.ErrRange,
	})
}

func TestP6_4Groups(t *testing.T) {
	checkLast(t, map[string]api.Errno{
		"pop q 0 a": api.ErrRange, "pop q -1 a": api.ErrRange, "pop q -2147483648 a": api.ErrRange, "pop q 1 a": api.OK, "pop q 1021 a": api.OK, "pop q 1022 a": api.ErrMany, "pop q 2147483648 a": api.ErrMany,
		"input y 0": api.ErrRange, "input y -1": api.ErrRange, "input y 1": api.OK, "input y 254": api.OK, "input y 255": api.ErrMany, "input y 2147483648": api.ErrMany,
		"current p 1048576": api.OK, "current p 1048577": api.ErrRange, "current p -1048576": api.OK, "current p -1048577": api.ErrRange, "current p 2147483648": api.ErrRange, "current p -2147483648": api.ErrRange,
	})
	for s, want := range map[string]api.Errno{
		"pop q 1021 a\npop s 1 a": api.ErrMany, "input y 254\ninput z 1": api.ErrMany, "pop q 1021 a\ninput z 1": api.OK,
		"current p 9\ncurrent p 1048567": api.OK, "current p 9\ncurrent p 1048568": api.ErrRange, "current p -9\ncurrent p 1048577": api.OK, "current p -9\ncurrent p 1048586": api.ErrRange,
		// what was added to one population is not added to another one, nor to its kind
		"current p 1048576\npop q 1 a\ncurrent q 1048576": api.OK,
	} {
		if _, _, e := lang.Build(small+s, 1); e != want {
			t.Errorf("Build with %q: %d, want %d", s, e, want)
		}
	}
}

// So many of each sort, and not one more; and which error comes first then.
func TestP6_4Counts(t *testing.T) {
	many := func(n int, line string) string {
		return "repeat i 1 " + strconv.Itoa(n) + "\n" + line + "\nend\n"
	}
	for _, x := range []struct {
		begin, line, last string
		most              int
		e                 api.Errno // of last, if there are as many as there can be
	}{
		{kind + "\npop q 1 a\n", "let c{i} {i}", "let d 1", 64, api.ErrMany},
		{kind + "\npop q 1 a\n", "let c{i} {i}", "let c1 1", 64, api.ErrHave},
		{kind + "\npop q 1 a\n", "let c{i} {i}", "let d e", 64, api.ErrNone},
		{kind + "\npop q 1 a\n", "neuron k{i} none bias 0 thresh {i} sub floor 0 rest 0", "neuron b none bias 0 thresh 0 sub floor 0 rest 0", 63, api.ErrMany},
		{kind + "\npop q 1 a\n", "neuron k{i} none bias 0 thresh {i} sub floor 0 rest 0", "neuron b none bias 0 thresh 1 sub floor 0 rest 0", 63, api.ErrMany},
		{kind + "\n", "pop p{i} 1 a", "pop q 0 a", 64, api.ErrMany},
		{kind + "\n", "pop p{i} 1 a", "pop q 1 a", 64, api.ErrMany},
		{kind + "\n", "pop p{i} 1 a", "input x 1", 64, api.ErrMany},
		{kind + "\n", "pop p{i} 1 a", "input x 0", 64, api.ErrMany},
		{kind + "\npop q 1 a\n", "input x{i} 1", "pop s 1 a", 63, api.ErrMany},
		{kind + "\npop q 1 a\n", "input x{i} 1", "input y 1000", 63, api.ErrMany},
		{kind + "\npop q 1 a\n", "probe r{i} q", "probe s q", 64, api.ErrMany},
		{kind + "\npop q 1 a\n", "probe r{i} q", "probe r1 q", 64, api.ErrHave},
	} {
		s := x.begin + many(x.most, x.line)
		build(t, s, 1)
		if _, at, e := lang.Build(s+x.last, 1); at != strings.Count(s, "\n")+1 || e != x.e {
			t.Errorf("Build of %d times %q, and %q: %d, %d, want %d", x.most, x.line, x.last, at, e, x.e)
		}
		if _, at, e := lang.Build(x.begin+many(x.most+1, x.line), 1); at != strings.Count(x.begin, "\n")+2 || e != api.ErrMany {
			t.Errorf("Build of %d times %q: %d, %d", x.most+1, x.line, at, e)
		}
	}
	// Kinds, constants and probes are no groups.
	build(t, kind+"\n"+many(64, "let c{i} 1")+many(63, "neuron k{i} none bias 0 thresh 1 sub floor 0 rest 0")+many(64, "pop p{i} 1 a")+many(64, "probe r{i} p{i}"), 1)
}

func TestP6_4Joins(t *testing.T) {
	l := map[string]api.Errno{}
	for _, rule := range []string{"all", "others", "shift 1", "near 1", "random 1", "pick 1"} {
		for end, want := range map[string]api.Errno{
			"weight 32768 32768 delay 16 16": api.OK, "weight -32768 32768 delay 1 16": api.OK, "weight -32768 -32768 delay 1 1": api.OK, "weight 0 0 delay 1 1": api.OK,
			"weight 32769 32769 delay 1 1": api.ErrRange, "weight 1 32769 delay 1 1": api.ErrRange, "weight -32769 1 delay 1 1": api.ErrRange, "weight -32769 -32769 delay 1 1": api.ErrRange,
			"weight 2 1 delay 1 1": api.ErrRange, "weight 1 1 delay 2 1": api.ErrRange, "weight 1 1 delay 0 0": api.ErrRange, "weight 1 1 delay 0 1": api.ErrRange, "weight 1 1 delay 1 17": api.ErrRange, "weight 1 1 delay 17 17": api.ErrRange, "weight 1 1 delay -1 1": api.ErrRange,
			"weight 2147483648 2147483648 delay 1 1": api.ErrRange, "weight 1 1 delay -2147483648 2147483648": api.ErrRange, "weight 32769 32768 delay 1 1": api.ErrRange, "weight -32768 -32769 delay 1 1": api.ErrRange, "weight 1 1 delay 17 16": api.ErrRange, "weight 1 1 delay 1 0": api.ErrRange,
		} {
			l["join x p "+rule+" "+end] = want
		}
	}
	for rule, want := range map[string]api.Errno{
		"near 0": api.OK, "near -1": api.ErrRange, "near 2147483648": api.OK, "near -2147483648": api.ErrRange, "shift -1": api.OK, "shift 2147483648": api.OK, "shift -2147483648": api.OK,
		"random 0": api.OK, "random 256": api.OK, "random 257": api.ErrRange, "random -1": api.ErrRange,
		"pick 0": api.OK, "pick 2": api.OK, "pick 3": api.ErrShape, "pick -1": api.ErrRange, "pick 2147483648": api.ErrShape, "one": api.ErrShape,
	} {
		l["join x p "+rule+" weight 1 1 delay 1 1"] = want
	}
	l["join p p one weight 1 1 delay 1 1"] = api.OK
	l["join p p pick 3 weight 1 1 delay 1 1"] = api.OK
	l["join p p pick 4 weight 1 1 delay 1 1"] = api.ErrShape
	l["join x p one weight 2 1 delay 1 1"] = api.ErrRange
	l["join x p one weight 1 1 delay 1 17"] = api.ErrRange
	l["join x p pick 3 weight 1 1 delay 0 1"] = api.ErrRange
	checkLast(t, l)
	checkLast(t, map[string]api.Errno{
		"wire x 1 p 2 weight 32768 delay 16": api.OK, "wire x 0 p 0 weight -32768 delay 1": api.OK, "wire p 2 p 2 weight 0 delay 1": api.OK,
		"wire x 2 p 0 weight 1 delay 1": api.ErrRange, "wire x -1 p 0 weight 1 delay 1": api.ErrRange, "wire p 3 p 0 weight 1 delay 1": api.ErrRange, "wire x 0 p 3 weight 1 delay 1": api.ErrRange, "wire x 0 p -1 weight 1 delay 1": api.ErrRange, "wire x 2147483648 p 0 weight 1 delay 1": api.ErrRange,
		"wire x 0 p 0 weight 32769 delay 1": api.ErrRange, "wire x 0 p 0 weight -32769 delay 1": api.ErrRange, "wire x 0 p 0 weight 1 delay 0": api.ErrRange, "wire x 0 p 0 weight 1 delay 17": api.ErrRange,
	})
}

func TestP6_4Synapses(t *testing.T) {
	const wide = kind + "\npop p 64 a\npop q 128 a\npop s 1 a\npop u 2 a\n" // p times q are as many as there can be
	for s, want := range map[string]api.Errno{
		"join p q all weight 1 1 delay 1 1":                                         api.OK,
		"join p q all weight 1 1 delay 1 1\nwire s 0 s 0 weight 1 delay 1":          api.ErrMany,
		"join p q all weight 1 1 delay 1 1\njoin s s all weight 1 1 delay 1 1":      api.ErrMany,
		"join p q all weight 1 1 delay 1 1\njoin s s others weight 1 1 delay 1 1":   api.OK,
		"join p q all weight 1 1 delay 1 1\njoin p q random 0 weight 1 1 delay 1 1": api.OK,
		"join p q all weight 1 1 delay 1 1\njoin p q pick 0 weight 1 1 delay 1 1":   api.OK,
		"join p q all weight 1 1 delay 1 1\njoin p q one weight 1 1 delay 1 1":      api.ErrShape,
		"join p q all weight 1 1 delay 1 1\nwire s 1 s 0 weight 1 delay 1":          api.ErrRange,
		"wire s 0 s 0 weight 1 delay 1\njoin p q all weight 1 1 delay 1 1":          api.ErrMany,
		"wire s 0 s 0 weight 1 delay 1\njoin p q random 256 weight 1 1 delay 1 1":   api.ErrMany,
		"join q p pick 128 weight 1 1 delay 1 1":                                    api.OK,
		"join q q pick 64 weight 1 1 delay 1 1":                                     api.OK,
		"join q q pick 65 weight 1 1 delay 1 1":                                     api.ErrMany,
		"join q q near 500 weight 1 1 delay 1 1":                                    api.ErrMany,
	} {
		l := strings.Split(s, "\n")
		_, at, e := lang.Build(wide+s, 1)
		if e != want || e != api.OK && at != 5+len(l) {
			t.Errorf("Build with %q: %d, %d, want %d", s, at, e, want)
		}
	}
}

func TestP6_5Results(t *testing.T) {
	p := build(t, text(kind, "pop p 3 a", "input x 2", "let w 2", "join x p all weight w w delay 1 1", "join p p shift 1 weight 4 4 delay 3 3",
		"current p 7", "probe out p", "input y 1", "pop q 1 a", "wire y 0 p 2 weight -32768 delay 16", "wire q 0 q 0 weight 1 delay w", "probe in q", "probe p p"), 7)
	a := api.Params{Thresh: 5, Floor: -4, Rest: 1}
	b := a
	b.Bias = 7
	want := lang.Plan{
		Net: api.Net{Neurons: []api.Params{b, b, b, a}, Inputs: 3, Synapses: []api.Synapse{
			synapse(-1, 0, 2, 1), synapse(-2, 0, 2, 1), synapse(-1, 1, 2, 1), synapse(-2, 1, 2, 1), synapse(-1, 2, 2, 1), synapse(-2, 2, 2, 1),
			synapse(2, 0, 4, 3), synapse(0, 1, 4, 3), synapse(1, 2, 4, 3), synapse(-3, 2, -32768, 16), synapse(3, 3, 1, 2)}},
		Groups: []lang.Group{{Name: "p", Count: 3}, {Name: "x", Input: true, Count: 2}, {Name: "y", Input: true, First: 2, Count: 1}, {Name: "q", First: 3, Count: 1}},
		Probes: []lang.Probe{{Name: "out", Count: 3}, {Name: "in", First: 3, Count: 1}, {Name: "p", Count: 3}},
	}
	if !samePlan(p, want) {
		t.Errorf("Build: %v, want %v", p, want)
	}
	p = build(t, text("neuron n line 3 bias -1 thresh 9 sub floor 0 rest 64", "neuron m share 256 bias 0 thresh 1 to -5 floor -5 rest 0", "pop n 1 m", "pop m 2 n", "current m 4", "current m -1"), 0)
	n := api.Params{LeakKind: api.LeakLine, Leak: 3, Bias: 2, Thresh: 9, ResetKind: api.ResetSub, Rest: 64}
	m := api.Params{LeakKind: api.LeakShare, Leak: 256, Thresh: 1, Reset: -5, Floor: -5}
	if !slices.Equal(p.Net.Neurons, []api.Params{m, n, n}) || p.Net.Inputs != 0 || len(p.Net.Synapses) != 0 || len(p.Probes) != 0 {
		t.Errorf("Build of other kinds: %v", p)
	}
	for _, s := range []string{"", "# a", "let a 1", kind, "input x 3", kind + "\ninput x 1", "repeat i 1 0\npop p 1 a\nend"} {
		if p, at, e := lang.Build(s, 1); at != 0 || e != api.ErrArg || !samePlan(p, lang.Plan{}) {
			t.Errorf("Build(%q): %v, %d, %d", s, p, at, e)
		}
	}
	// Words of the language, and of other sorts, as names: what they are is told by where they stand.
	p = build(t, text("let none 3", "let sub 4", "let to 2", "let weight 1", "let all 5", "neuron line line none bias sub thresh all to to floor -2 rest to", "neuron sub share sub bias to thresh sub sub floor 0 rest sub", "pop all all line", "pop line weight sub",
		"input weight weight", "join weight all all weight weight weight delay weight weight", "join all all near to weight to none delay to none"), 3)
	line, share := api.Params{LeakKind: api.LeakLine, Leak: 3, Bias: 4, Thresh: 5, Reset: 2, Floor: -2, Rest: 2}, api.Params{LeakKind: api.LeakShare, Leak: 4, Bias: 2, Thresh: 4, ResetKind: api.ResetSub, Rest: 4}
	if !slices.Equal(p.Net.Neurons, []api.Params{line, line, line, line, line, share}) || len(p.Net.Synapses) != 5+19 {
		t.Errorf("Build with words of the language as names: %v", p)
	}
}

// Build is what the chapter's table says, for programs of all statements, some of which are spoilt.
func TestP6_5BuildModel(t *testing.T) {
	var g generator = 7
	failed, synapses := map[api.Errno]int{}, 0
	for range 10000 {
		s, seed := g.mixed(), uint64(g)*uint64(g.below(5))
		p, at, e := lang.Build(s, seed)
		want, wantAt, wantE := planModel(s, seed)
		if at != wantAt || e != wantE || !samePlan(p, want) {
			t.Fatalf("Build(%q, %d): %v, %d, %d, want %v, %d, %d", s, seed, p, at, e, want, wantAt, wantE)
		}
		failed[e]++
		synapses += len(p.Net.Synapses)
	}
	t.Log(failed, synapses)
	for _, e := range []api.Errno{api.OK, api.ErrRange, api.ErrNone, api.ErrHave, api.ErrForm, api.ErrName, api.ErrShape} {
		if failed[e] < 100 {
			t.Errorf("the error %d only %d times", e, failed[e])
		}
	}
	if synapses < 50000 {
		t.Errorf("only %d synapses", synapses)
	}
}
