package lang_test

import (
	"strings"
	"testing"

	"ganglion/api"
	"ganglion/lang"
)

func TestP6_1Read(t *testing.T) {
	for _, x := range []struct {
		s    string
		want []lang.Line
	}{
		{"", nil},
		{"\n\n", nil},
		{"   \n # a\n#\n", nil},
		{"let a 1", []lang.Line{line(1, "let a 1")}},
		{"let a 1\n", []lang.Line{line(1, "let a 1")}},
		{"let  a   1 # one\n\n  # nothing\n x#y z\n", []lang.Line{line(1, "let a 1"), line(4, "x#y z")}},
		{"   a", []lang.Line{line(1, "a")}},
		{"a   ", []lang.Line{line(1, "a")}},
		{"a# b", []lang.Line{line(1, "a# b")}},
		{"a #b\nc", []lang.Line{line(1, "a"), line(2, "c")}},
		{"#a b\nc", []lang.Line{line(2, "c")}},
		{"!~ {}\n\n\n\"", []lang.Line{line(1, "!~ {}"), line(4, "\"")}},
		{"end\nrepeat x", []lang.Line{line(1, "end"), line(2, "repeat x")}},
		{"a #\t\r\x00\x80\xff\nb", []lang.Line{line(1, "a"), line(2, "b")}},
	} {
		l, at, e := lang.Read(x.s)
		if e != api.OK || at != 0 || !sameLines(l, x.want) {
			t.Errorf("Read(%q): %v, %d, %d, want %v", x.s, l, at, e, x.want)
		}
	}
}

func TestP6_1ReadErrors(t *testing.T) {
	long, most := strings.Repeat("a", api.MaxLine+1), strings.Repeat("a", api.MaxLine)
	full := strings.Repeat("a\n", api.MaxText/2)
	for _, x := range []wrong{
		{strings.Repeat("a", api.MaxText+1), 0, api.ErrLong},
		{strings.Repeat("\n", api.MaxText+1), 0, api.ErrLong},
		{"\t" + full, 0, api.ErrLong},
		{full, 0, api.OK},
		{strings.Repeat("\n", api.MaxText), 0, api.OK},
		{long, 1, api.ErrLong},
		{most, 0, api.OK},
		{most + "\n" + most + "\n", 0, api.OK},
		{most + "\n" + long, 2, api.ErrLong},
		{strings.Repeat(" ", api.MaxLine+1), 1, api.ErrLong},
		{"#" + most, 1, api.ErrLong},
		{"\t" + most, 1, api.ErrLong},
		{"\t\n" + long, 1, api.ErrForm},
		{long + "\n\t", 1, api.ErrLong},
		{"a\nb\tc", 2, api.ErrForm},
		{"a\n\n\tc", 3, api.ErrForm},
		{"a\r\nb", 1, api.ErrForm},
		{"a\x00", 1, api.ErrForm},
		{"\x1f", 1, api.ErrForm},
		{"\x7f", 1, api.ErrForm},
		{"\x80", 1, api.ErrForm},
		{"\u00e9", 1, api.ErrForm},
		{"a\u00a0b", 1, api.ErrForm},
		{"a\xff # b", 1, api.ErrForm},
		{"\t# b", 1, api.ErrForm},
		{"a b c d\xfe", 1, api.ErrForm},
	} {
		if l, at, e := lang.Read(x.s); at != x.at || e != x.e || e != api.OK && len(l) != 0 {
			t.Errorf("Read(%.40q): %d lines, %d, %d, want %d, %d", x.s, len(l), at, e, x.at, x.e)
		}
		if s, at, e := lang.Format(x.s); at != x.at || e != x.e || e != api.OK && s != "" {
			t.Errorf("Format(%.40q): %d bytes, %d, %d, want %d, %d", x.s, len(s), at, e, x.at, x.e)
		}
		if x.e != api.OK {
			checkWrong(t, []wrong{x})
		}
	}
}

// Each byte alone: a word, no word, or an error.
func TestP6_1Bytes(t *testing.T) {
	for c := range 256 {
		want := api.ErrForm
		if c == '\n' || c == ' ' || c > 32 && c < 127 {
			want = api.OK
		}
		if _, _, e := lang.Read(string([]byte{'a', byte(c), 'b'})); e != want {
			t.Errorf("Read of the byte %d: %d, want %d", c, e, want)
		}
	}
}

func TestP6_1Format(t *testing.T) {
	for s, want := range map[string]string{
		"":                                 "",
		"\n # a\n":                         "",
		"let  a   1 # one":                 "let a 1\n",
		"a\n\n  b   c  \n\n\n":             "a\nb c\n",
		"x {i+1 } #":                       "x {i+1 }\n",
		strings.Repeat("a", api.MaxLine):   strings.Repeat("a", api.MaxLine) + "\n",
		strings.Repeat(" a\n", 7) + " # b": strings.Repeat("a\n", 7),
	} {
		if got := format(t, s); got != want {
			t.Errorf("Format(%.40q): %.40q, want %.40q", s, got, want)
		}
	}
}

// Read is what the definitions of words and comments say, for any bytes.
func TestP6_1ReadModel(t *testing.T) {
	var g generator = 3
	good, bad := 0, 0
	for range 20000 {
		b := make([]byte, g.below(30))
		for i := range b {
			b[i] = g.one("\n", "\n", " ", " ", "#", "a", "b", "!", "~", "\t", "\x7f")[0]
			if b[i] >= 127 || b[i] == '\t' && g.below(3) > 0 {
				b[i] = 'c'
			}
		}
		s := string(b)
		l, at, e := lang.Read(s)
		want, wantAt, wantE := readModel(s)
		if at != wantAt || e != wantE || !sameLines(l, want) {
			t.Fatalf("Read(%q): %v, %d, %d, want %v, %d, %d", s, l, at, e, want, wantAt, wantE)
		}
		if e != api.OK {
			bad++
			continue
		}
		good++
		f := ""
		for _, x := range want {
			f += strings.Join(x.Words, " ") + "\n"
		}
		if got := format(t, s); got != f {
			t.Fatalf("Format(%q): %q, want %q", s, got, f)
		}
	}
	if good < 5000 || bad < 5000 {
		t.Errorf("%d texts are good, %d bad", good, bad)
	}
}
