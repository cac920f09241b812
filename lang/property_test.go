package lang_test

import (
	"regexp"
	"slices"
	"strconv"
	"strings"
	"testing"

	"ganglion/api"
	"ganglion/lang"
	"ganglion/net"
)

// P6.7: a formatted text is the same program, with its lines numbered anew.
func TestP6_7Formatted(t *testing.T) {
	var g generator = 17
	built, failed := 0, 0
	for range 4000 {
		s := g.loosen(g.mixed())
		f, _, e := lang.Format(s)
		if e != api.OK {
			continue
		}
		if again := format(t, f); again != f {
			t.Fatalf("Format(%q): %q, and of that %q", s, f, again)
		}
		checkSameProgram(t, s, f, uint64(g))
		if _, _, e := lang.Build(f, uint64(g)); e == api.OK {
			built++
		} else {
			failed++
		}
	}
	if built < 500 || failed < 500 {
		t.Errorf("%d programs were built, and %d had errors", built, failed)
	}
}

// checkSameProgram checks that the text f does what s does, if its line k+1 is the line k of those that Read returns
// of s.
func checkSameProgram(t *testing.T, s, f string, seed uint64) {
	t.Helper()
	read, _, _ := lang.Read(s)
	number := func(at int) int {
		if at == 0 {
			return 0
		}
		return read[at-1].Number
	}
	l, at, e := lang.Expand(s)
	m, atF, eF := lang.Expand(f)
	if at != number(atF) || e != eF || !sameWords(l, m) {
		t.Fatalf("Expand(%q): %d, %d, of what Format returns: %d, %d", s, at, e, atF, eF)
	}
	for i, x := range m {
		if l[i].Number != number(x.Number) {
			t.Fatalf("Expand(%q): the statement %d is of the line %d, with Format %d", s, i, l[i].Number, x.Number)
		}
	}
	p, at, e := lang.Build(s, seed)
	q, atF, eF := lang.Build(f, seed)
	if at != number(atF) || e != eF || !samePlan(p, q) {
		t.Fatalf("Build(%q): %v, %d, %d, of what Format returns: %v, %d, %d", s, p, at, e, q, atF, eF)
	}
}

// P6.7: the only text that becomes longer is one whose last line has no end.
func TestP6_7Longest(t *testing.T) {
	s := strings.TrimSuffix(strings.Repeat(strings.Repeat("a", 15)+"\n", api.MaxText/16), "\n")
	if f := format(t, s); f != s+"\n" || len(f) != api.MaxText || format(t, f) != f {
		t.Errorf("Format of %d bytes: %d", len(s), len(f))
	}
	s += "b"
	f := format(t, s)
	if f != s+"\n" {
		t.Errorf("Format of %d bytes: %d", len(s), len(f))
	}
	if _, at, e := lang.Format(f); at != 0 || e != api.ErrLong {
		t.Errorf("Format of %d bytes: %d, %d", len(f), at, e)
	}
}

// P6.7, G3: what is built is a valid network, the same one each time, and without anything random for each seed.
func TestP6_7Seeds(t *testing.T) {
	var g generator = 19
	differ := 0
	for range 1500 {
		s, random := g.program(g.from(1, 30), true).text(), true
		if g.below(2) == 0 {
			s, random = g.program(g.from(1, 30), false).text(), false
		}
		p, at, e := lang.Build(s, 1)
		if e == api.OK && net.Check(p.Net) != api.OK {
			t.Fatalf("Build(%q): not a valid network: %v", s, p.Net)
		}
		if q, atQ, eQ := lang.Build(s, 1); at != atQ || e != eQ || !samePlan(p, q) {
			t.Fatalf("Build(%q), twice: %v, %d, %d, then %v, %d, %d", s, p, at, e, q, atQ, eQ)
		}
		for _, seed := range []uint64{0, 2, 1<<64 - 1, uint64(g) * 3} {
			q, atQ, eQ := lang.Build(s, seed)
			if same := at == atQ && e == eQ && samePlan(p, q); !same && !random {
				t.Fatalf("Build(%q, %d): %v, %d, %d, want %v, %d, %d", s, seed, q, atQ, eQ, p, at, e)
			} else if !same {
				differ++
			}
		}
	}
	if differ < 1000 {
		t.Errorf("only %d networks depend on the seed", differ)
	}
}

// The draws of the seed 0, by hand: modulo 256 they are 191, 8, and then 109 and 199 where a source is asked for.
func TestP6_7Draws(t *testing.T) {
	p := build(t, text(kind, "pop p 2 a", "input x 3", "join p p random 128 weight -5 5 delay 1 16", "wire x 0 p 0 weight 7 delay 7", "join p p all weight 4 4 delay 2 2",
		"join x p pick 2 weight 0 1 delay 3 3"), 0)
	want := []api.Synapse{
		synapse(1, 0, 1, 5), synapse(0, 1, 4, 9), synapse(-1, 0, 7, 7),
		synapse(0, 0, 4, 2), synapse(1, 0, 4, 2), synapse(0, 1, 4, 2), synapse(1, 1, 4, 2),
		synapse(-1, 0, 1, 3), synapse(-3, 0, 0, 3), synapse(-1, 1, 0, 3), synapse(-3, 1, 0, 3),
	}
	if !slices.Equal(p.Net.Synapses, want) {
		t.Errorf("Build: %v, want %v", p.Net.Synapses, want)
	}
	// A rule without synapses draws too, and pick draws no weight if there is no choice.
	for _, x := range []struct {
		line  string
		draws int
	}{
		{"join p p random 0 weight 1 9 delay 1 9", 4}, {"join x p random 0 weight 1 1 delay 1 1", 6}, {"join p p random 256 weight 1 1 delay 1 1", 4}, {"join p p random 256 weight 1 2 delay 1 2", 12},
		{"join p p pick 0 weight 1 9 delay 1 9", 0}, {"join x p pick 3 weight 1 1 delay 1 1", 6}, {"join x p pick 1 weight 1 1 delay 1 2", 4}, {"join x p all weight 1 1 delay 1 1", 0},
		{"join x p all weight 1 2 delay 1 1", 6}, {"join p p one weight 1 2 delay 1 2", 4}, {"wire p 0 p 0 weight 1 delay 1", 0}, {"probe r p", 0},
	} {
		var g generator = 99
		for range x.draws {
			g.below(1)
		}
		want := synapse(0, 0, g.from(-100, 100), g.from(1, 16))
		p := build(t, text(kind, "pop p 2 a", "input x 3", "pop q 1 a", x.line, "join q q all weight -100 100 delay 1 16"), 99)
		if got := p.Net.Synapses[len(p.Net.Synapses)-1]; got.Weight != want.Weight || got.Delay != want.Delay {
			t.Errorf("the synapse behind %q: %v, want %v", x.line, got, want)
		}
	}
}

// unrolled is a text of single-spaced lines, in which the first repeat is written out.
func unrolled(s string) (string, bool) {
	l := strings.Split(s, "\n")
	first := slices.IndexFunc(l, func(x string) bool { return strings.HasPrefix(x, "repeat ") })
	if first < 0 {
		return s, false
	}
	end := first
	for open := 1; open > 0; {
		end++
		if strings.HasPrefix(l[end], "repeat ") {
			open++
		} else if l[end] == "end" {
			open--
		}
	}
	words := strings.Fields(l[first])
	from, _ := strconv.Atoi(words[2])
	to, _ := strconv.Atoi(words[3])
	use := regexp.MustCompile(`\{` + words[1] + `([+-][0-9]+)?\}`)
	out := slices.Clone(l[:first])
	for n := from; n <= to; n++ {
		for _, x := range l[first+1 : end] {
			out = append(out, use.ReplaceAllStringFunc(x, func(w string) string {
				k, _ := strconv.Atoi(w[1+len(words[1]) : len(w)-1])
				return strconv.Itoa(n + k)
			}))
		}
	}
	return text(append(out, l[end+1:]...)...), true
}

// P6.9: repeats are written out, one by one, without any change.
func TestP6_9Repeats(t *testing.T) {
	var g generator = 23
	repeats, built := 0, 0
	for range 3000 {
		s := g.nest()
		if g.below(2) == 0 {
			s = small + g.one(loops...) + "\n" + g.one(loops...) + "\n" + g.one(loops...)
		}
		l, _, e := lang.Expand(s)
		if e != api.OK || len(l) > 300 {
			continue
		}
		p, _, eP := lang.Build(s, uint64(g))
		flat, is := unrolled(s)
		for k := 0; is && k < 40; k++ {
			repeats++
			if m := expand(t, flat); !sameWords(l, m) {
				t.Fatalf("Expand(%q): %v, of %q: %v", s, l, flat, m)
			}
			if q, _, e := lang.Build(flat, uint64(g)); e != eP || !samePlan(p, q) {
				t.Fatalf("Build(%q): %v, %d, of %q: %v, %d", s, p, eP, flat, q, e)
			}
			flat, is = unrolled(flat)
		}
		if eP == api.OK {
			built++
		}
	}
	if repeats < 3000 || built < 300 {
		t.Errorf("only %d repeats and %d programs", repeats, built)
	}
}

// P6.9: only passes are counted besides.
func TestP6_9Passes(t *testing.T) {
	s := "repeat i 1 2048\nlet a {i}\nend\n"
	flat, _ := unrolled(s)
	if l := expand(t, flat); !sameWords(l, expand(t, s)) || len(l) != 2048 {
		t.Errorf("Expand of 2048 passes: %d statements", len(l))
	}
	s = "repeat i 1 2049\nlet a {i}\nend\n"
	flat, _ = unrolled(s)
	checkWrong(t, []wrong{{s, 1, api.ErrMany}})
	if l := expand(t, flat); len(l) != 2049 {
		t.Errorf("Expand of 2049 lines: %d statements", len(l))
	}
}

// joined returns the synapses of a join, from n inputs or neurons to m neurons.
func joined(t *testing.T, n, m int, rule, rest string, seed uint64) []api.Synapse {
	t.Helper()
	from := "input x " + strconv.Itoa(n)
	if seed%2 == 0 {
		from = "pop x " + strconv.Itoa(n) + " a"
	}
	l := build(t, text(kind, "pop p "+strconv.Itoa(m)+" a", from, "join x p "+rule+" "+rest), seed).Net.Synapses
	for i, s := range l {
		if l[i].From = -1 - s.From; seed%2 == 0 {
			l[i].From = s.From - m
		}
	}
	return l
}

// pairs returns which sources the synapses have, and which targets.
func pairs(l []api.Synapse) [][2]int {
	var out [][2]int
	for _, s := range l {
		out = append(out, [2]int{s.From, s.To})
	}
	return out
}

// P6.10: how many synapses a rule makes, and between which neurons.
func TestP6_10Rules(t *testing.T) {
	const rest = "weight 1 1 delay 1 1"
	var seed uint64
	for n := 1; n <= 9; n++ {
		for m := 1; m <= 9; m++ {
			seed += 7
			pairsOf := func(rule string) [][2]int { return pairs(joined(t, n, m, rule, rest, seed)) }
			var all [][2]int
			for j := range m {
				for i := range n {
					all = append(all, [2]int{i, j})
				}
			}
			same := []string{"all", "random 256", "near " + strconv.Itoa(max(n, m)), "near 2147483648", "pick " + strconv.Itoa(n)}
			for _, rule := range same {
				if l := pairsOf(rule); !slices.Equal(l, all) {
					t.Errorf("%s from %d to %d: %v", rule, n, m, l)
				}
			}
			if l := pairsOf("random 0"); len(l) != 0 {
				t.Errorf("random 0 from %d to %d: %v", n, m, l)
			}
			if n == m {
				checkPairs(t, "one", pairsOf("one"), all, m, func(i, j int) bool { return i == j })
			}
			checkPairs(t, "others", pairsOf("others"), all, n*m-min(n, m), func(i, j int) bool { return i != j })
			for _, k := range []int{-1 << 31, -n - 1, -n, -1, 0, 1, 2, n - 1, n, n + 1, 1 << 31} {
				rule := "shift " + strconv.Itoa(k)
				checkPairs(t, rule, pairsOf(rule), all, m, func(i, j int) bool { return ((j-k)%n+n)%n == i })
			}
			for k := range max(n, m) {
				rule := "near " + strconv.Itoa(k)
				checkPairs(t, rule, pairsOf(rule), all, -1, func(i, j int) bool { return max(i-j, j-i) <= k })
			}
			for k := range n {
				l := pairsOf("pick " + strconv.Itoa(k))
				checkPairs(t, "pick", l, all, k*m, func(i, j int) bool { return slices.Contains(l, [2]int{i, j}) })
				for j := range m {
					if got := slices.IndexFunc(l, func(x [2]int) bool { return x[1] == j }); k > 0 && got != k*j {
						t.Errorf("pick %d from %d to %d: %v", k, n, m, l)
					}
				}
			}
		}
	}
}

// checkPairs checks that a rule made those pairs of all that are to be there, in order, and so many (or any number, for
// -1).
func checkPairs(t *testing.T, rule string, l, all [][2]int, count int, is func(i, j int) bool) {
	t.Helper()
	want := slices.DeleteFunc(slices.Clone(all), func(x [2]int) bool { return !is(x[0], x[1]) })
	if !slices.Equal(l, want) || count >= 0 && len(l) != count {
		t.Errorf("%s: %v, want %v, and %d", rule, l, want, count)
	}
}

// P6.10: weights and delays are within their ranges, and can be all that is in them.
func TestP6_10Ranges(t *testing.T) {
	for seed, rule := range []string{"all", "others", "near 20", "random 200", "pick 30", "shift 3"} {
		weights, delays := map[int]bool{}, map[int]bool{}
		for i := range uint64(30) {
			for _, s := range joined(t, 40, 40, rule, "weight -3 4 delay 14 16", uint64(seed)*100+i) {
				weights[s.Weight], delays[s.Delay] = true, true
			}
		}
		for w := range weights {
			if w < -3 || w > 4 {
				t.Errorf("%s: the weight %d", rule, w)
			}
		}
		for d := range delays {
			if d < 14 || d > 16 {
				t.Errorf("%s: the delay %d", rule, d)
			}
		}
		if len(weights) != 8 || len(delays) != 3 {
			t.Errorf("%s: %d weights, and %d delays", rule, len(weights), len(delays))
		}
	}
	for _, s := range joined(t, 9, 9, "all", "weight -32768 32768 delay 1 16", 5) {
		if s.Weight < -api.MaxWeight || s.Weight > api.MaxWeight || s.Delay < 1 || s.Delay > api.MaxDelay {
			t.Errorf("the widest ranges: %v", s)
		}
	}
}
