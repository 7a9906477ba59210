package lex_test

import (
	"slices"
	"strings"
	"testing"

	"confluence/api"
	"confluence/lex"
)

// reckon is what Cut is to answer, reckoned byte by byte.
func reckon(s string) ([]api.Word, api.Fault) {
	var words []api.Word
	inside := false
	for i := 0; i < len(s); i++ {
		switch c := s[i]; {
		case c == 35:
			return words, api.Fault{}
		case c == 32 || c == 9:
			inside = false
		case c < 33 || c > 126:
			return nil, api.Fault{At: i + 1, Code: 2}
		case !inside && len(words) == 64:
			return nil, api.Fault{At: i + 1, Code: 6}
		case !inside:
			inside = true
			words = append(words, api.Word{Text: s[i : i+1], At: i + 1})
		default:
			words[len(words)-1].Text += s[i : i+1]
		}
	}
	return words, api.Fault{}
}

// cut reports what Cut answers, if it is not what was reckoned.
func cut(t *testing.T, s string) {
	t.Helper()
	words, fault := lex.Cut(s)
	want, wrong := reckon(s)
	if !slices.Equal(words, want) || fault != wrong {
		t.Errorf("%.200q: %v %v, not %v %v", s, words, fault, want, wrong)
	}
	if fault != (api.Fault{}) && words != nil {
		t.Errorf("%.200q: a list beside %v", s, fault)
	}
}

// every calls a function for all texts of up to n pieces.
func every(n int, pieces []string, f func(string)) {
	var grow func(s string, left int)
	grow = func(s string, left int) {
		f(s)
		if left == 0 {
			return
		}
		for _, p := range pieces {
			grow(s+p, left-1)
		}
	}
	grow("", n)
}

// row is n words, each behind one of the gaps in turn, but the first one.
func row(n int, word string, gaps ...string) string {
	s := ""
	for i := range n {
		if i > 0 {
			s += gaps[i%len(gaps)]
		}
		s += word
	}
	return s
}

// P16.1

func TestCut(t *testing.T) {
	for _, x := range []struct {
		s    string
		want []api.Word
	}{
		{"a  bc # d", []api.Word{{Text: "a", At: 1}, {Text: "bc", At: 4}}},
		{"", nil},
		{" ", nil},
		{"\t", nil},
		{" \t \t\t  ", nil},
		{"#", nil},
		{"# a b", nil},
		{"  # a b", nil},
		{"\t#a", nil},
		{"##", nil},
		{"a", []api.Word{{Text: "a", At: 1}}},
		{" a", []api.Word{{Text: "a", At: 2}}},
		{"\ta\t", []api.Word{{Text: "a", At: 2}}},
		{"a ", []api.Word{{Text: "a", At: 1}}},
		{"ab cd", []api.Word{{Text: "ab", At: 1}, {Text: "cd", At: 4}}},
		{"ab\tcd", []api.Word{{Text: "ab", At: 1}, {Text: "cd", At: 4}}},
		{"ab \t\t cd  e", []api.Word{{Text: "ab", At: 1}, {Text: "cd", At: 7}, {Text: "e", At: 11}}},
		{" \t neighbor 10.0.0.1\tas 65000 \t", []api.Word{{Text: "neighbor", At: 4}, {Text: "10.0.0.1", At: 13}, {Text: "as", At: 22}, {Text: "65000", At: 25}}},
		{"a#", []api.Word{{Text: "a", At: 1}}},
		{"a#b", []api.Word{{Text: "a", At: 1}}},
		{"a#b c", []api.Word{{Text: "a", At: 1}}},
		{"a b#", []api.Word{{Text: "a", At: 1}, {Text: "b", At: 3}}},
		{"a b#c#d e", []api.Word{{Text: "a", At: 1}, {Text: "b", At: 3}}},
		{"a # \x00\n\xff\x7f\r", []api.Word{{Text: "a", At: 1}}},
		{"#\n", nil},
		{"#\x80 a", nil},
		{"a #\nb", []api.Word{{Text: "a", At: 1}}},
		{"a a a", []api.Word{{Text: "a", At: 1}, {Text: "a", At: 3}, {Text: "a", At: 5}}},
		{"!~ \"$%&'()*+,-./", []api.Word{{Text: "!~", At: 1}, {Text: "\"$%&'()*+,-./", At: 4}}},
		{"0:;<=>?@A [\\]^_`a{|}", []api.Word{{Text: "0:;<=>?@A", At: 1}, {Text: "[\\]^_`a{|}", At: 11}}},
	} {
		words, fault := lex.Cut(x.s)
		if !slices.Equal(words, x.want) || fault != (api.Fault{}) {
			t.Errorf("%q: %v %v", x.s, words, fault)
		}
		cut(t, x.s)
	}
}

func TestCutForm(t *testing.T) {
	for _, x := range []struct {
		s  string
		at int
	}{
		{"\n", 1}, {"\r", 1}, {"\x00", 1}, {"\x7f", 1}, {"\xff", 1}, {"\v", 1}, {"\f", 1}, {"\x1f", 1}, {"\x80", 1},
		{" \n", 2}, {"\t\x00", 2}, {"a\n", 2}, {"a \n", 3}, {"a\r", 2}, {"a b\x7f", 4}, {"a b \x7fc", 5},
		{"a\x00b", 2}, {"a\xffb c", 2}, {"a\n\xff", 2}, {"\x00\n", 1}, {"a\nb", 2},
		{"\x7f#", 1}, {"a\x7f#b", 2}, {"a \x7f # b", 3}, {"a\x7f # \xff", 2}, {"ab\xc3\xa9 # c", 3}, {"\u00a0", 1}, {"a\u2003b", 2}, {"\ufeffa", 1},
	} {
		words, fault := lex.Cut(x.s)
		if words != nil || fault != (api.Fault{At: x.at, Code: api.ErrForm}) {
			t.Errorf("%q: %v %v", x.s, words, fault)
		}
		cut(t, x.s)
	}
}

// Each byte alone, at each end of a word, within it, between words and ahead of a # and behind it.
func TestCutBytes(t *testing.T) {
	for b := range 256 {
		c := string([]byte{byte(b)})
		words, fault := lex.Cut(c)
		switch {
		case b == 9 || b == 32 || b == 35:
			if words != nil || fault != (api.Fault{}) {
				t.Errorf("%d: %v %v", b, words, fault)
			}
		case b >= 33 && b <= 126:
			if !slices.Equal(words, []api.Word{{Text: c, At: 1}}) || fault != (api.Fault{}) {
				t.Errorf("%d: %v %v", b, words, fault)
			}
		default:
			if words != nil || fault != (api.Fault{At: 1, Code: api.ErrForm}) {
				t.Errorf("%d: %v %v", b, words, fault)
			}
		}
		for _, s := range []string{"a" + c, c + "a", "a" + c + "b", " " + c, c + " ", "a " + c + " b", "a  " + c, "\t" + c + "\t", "a b" + c + "c d", c + "#", c + " # a"} {
			cut(t, s)
		}
		for _, s := range []string{"#" + c, "a#" + c, "a # b" + c + c, "a #" + c + "b", "a##" + c} {
			cut(t, s)
			if _, fault := lex.Cut(s); fault != (api.Fault{}) {
				t.Errorf("%q: %v", s, fault)
			}
		}
	}
}

// Each pair of bytes between two others.
func TestCutPairs(t *testing.T) {
	for a := range 256 {
		for b := range 256 {
			cut(t, string([]byte{'x', byte(a), byte(b), 'y'}))
		}
	}
}

func TestCutAll(t *testing.T) {
	every(6, []string{"a", "~", " ", "\t", "#", "\x7f"}, func(s string) { cut(t, s) })
}

// There may be 64 words; with more the first that is too many is told.
func TestCutMany(t *testing.T) {
	for _, x := range []struct {
		s    string
		many int
		want api.Fault
	}{
		{row(63, "a", " "), 63, api.Fault{}},
		{row(64, "a", " "), 64, api.Fault{}},
		{row(65, "a", " "), 0, api.Fault{At: 129, Code: api.ErrLong}},
		{row(66, "a", " "), 0, api.Fault{At: 129, Code: api.ErrLong}},
		{row(1000, "a", " "), 0, api.Fault{At: 129, Code: api.ErrLong}},
		{row(64, "abc", "\t"), 64, api.Fault{}},
		{row(65, "abc", "\t"), 0, api.Fault{At: 257, Code: api.ErrLong}},
		{"  " + row(64, "a", "  ") + " \t", 64, api.Fault{}},
		{"  " + row(65, "a", "  "), 0, api.Fault{At: 195, Code: api.ErrLong}},
		{row(64, "a", " ") + "#", 64, api.Fault{}},
		{row(64, "a", " ") + "# b c", 64, api.Fault{}},
		{row(64, "a", " ") + " # b \xff", 64, api.Fault{}},
		{row(64, "a", " ") + " b#", 0, api.Fault{At: 129, Code: api.ErrLong}},
		{row(64, "a", " ") + " b # c", 0, api.Fault{At: 129, Code: api.ErrLong}},
		// A bad byte behind 64 words, with no word between, is the only fault.
		{row(64, "a", " ") + "\x7f", 0, api.Fault{At: 128, Code: api.ErrForm}},
		{row(64, "a", " ") + " \x7f", 0, api.Fault{At: 129, Code: api.ErrForm}},
		// A bad byte ahead of the 65th word, within it, and behind it.
		{"\x7f " + row(65, "a", " "), 0, api.Fault{At: 1, Code: api.ErrForm}},
		{row(30, "a", " ") + "\n" + row(35, "a", " "), 0, api.Fault{At: 60, Code: api.ErrForm}},
		{row(64, "a", " ") + " \x7fb", 0, api.Fault{At: 129, Code: api.ErrForm}},
		{row(64, "a", " ") + "\x7f b", 0, api.Fault{At: 128, Code: api.ErrForm}},
		{row(64, "a", " ") + " b\x7fb", 0, api.Fault{At: 129, Code: api.ErrLong}},
		{row(64, "a", " ") + " b\x7f", 0, api.Fault{At: 129, Code: api.ErrLong}},
		{row(65, "a", " ") + " \x7f", 0, api.Fault{At: 129, Code: api.ErrLong}},
		{row(66, "a", " ") + "\x00", 0, api.Fault{At: 129, Code: api.ErrLong}},
	} {
		words, fault := lex.Cut(x.s)
		if len(words) != x.many || fault != x.want {
			t.Errorf("%q: %d words, %v", x.s, len(words), fault)
		}
		cut(t, x.s)
	}
}

// A byte of each kind at each place of lines of some more and some fewer words than may be.
func TestCutManyPlaces(t *testing.T) {
	for n := 62; n <= 67; n++ {
		for _, s := range []string{row(n, "a", " "), "\t" + row(n, "bcd", " ", "\t ", "  ") + " "} {
			cut(t, s)
			for i := range len(s) + 1 {
				for _, c := range []string{"x", " ", "#", "\x7f", "\n"} {
					cut(t, s[:i]+c+s[i:])
					if i < len(s) {
						cut(t, s[:i]+c+s[i+1:])
					}
				}
			}
		}
	}
}

// A line itself may have any number of bytes.
func TestCutLong(t *testing.T) {
	for _, n := range []int{1, 255, 256, 65535, 65536, 100000, 100001, 300000} {
		word, gap := strings.Repeat("w", n), strings.Repeat(" \t", n)
		for _, x := range []struct {
			s    string
			want []api.Word
			no   api.Fault
		}{
			{word, []api.Word{{Text: word, At: 1}}, api.Fault{}},
			{gap, nil, api.Fault{}},
			{"a" + gap + "b", []api.Word{{Text: "a", At: 1}, {Text: "b", At: 2*n + 2}}, api.Fault{}},
			{word + "\t" + word, []api.Word{{Text: word, At: 1}, {Text: word, At: n + 2}}, api.Fault{}},
			{gap + "#" + gap + word, nil, api.Fault{}},
			{"a#" + strings.Repeat("\xff", n), []api.Word{{Text: "a", At: 1}}, api.Fault{}},
			{word + "\x7f", nil, api.Fault{At: n + 1, Code: api.ErrForm}},
			{gap + "\x00" + gap, nil, api.Fault{At: 2*n + 1, Code: api.ErrForm}},
		} {
			if words, fault := lex.Cut(x.s); !slices.Equal(words, x.want) || fault != x.no {
				t.Errorf("%d bytes that begin with %.10q: %d words, %v", len(x.s), x.s, len(words), fault)
			}
		}
	}
}
