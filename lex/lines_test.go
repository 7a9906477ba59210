package lex_test

import (
	"slices"
	"strings"
	"testing"

	"confluence/api"
	"confluence/lex"
)

// same tells whether two lists of lines are the same.
func same(a, b []api.Line) bool {
	return slices.EqualFunc(a, b, func(x, y api.Line) bool {
		return x.N == y.N && slices.Equal(x.Words, y.Words)
	})
}

// reckonLines is what Lines is to answer, reckoned byte by byte.
func reckonLines(s string) ([]api.Line, api.Fault) {
	feeds := 0
	for i := 0; i < len(s); i++ {
		if s[i] == 10 {
			feeds++
		}
	}
	if len(s) > 100000 || feeds > 2000 {
		return nil, api.Fault{Code: 6}
	}
	var l []api.Line
	for n, from := 1, 0; n <= feeds+1; n++ {
		to := from
		for to < len(s) && s[to] != 10 {
			to++
		}
		words, fault := reckon(s[from:to])
		if fault.Code != 0 {
			return nil, api.Fault{Line: n, At: fault.At, Code: fault.Code}
		}
		if len(words) > 0 {
			l = append(l, api.Line{N: n, Words: words})
		}
		from = to + 1
	}
	return l, api.Fault{}
}

// lines reports what Lines answers, if it is not what was reckoned; and it answers how many lines that are.
func lines(t *testing.T, s string) int {
	t.Helper()
	l, fault := lex.Lines(s)
	want, wrong := reckonLines(s)
	if !same(l, want) || fault != wrong {
		t.Errorf("%.200q: %v %v, not %v %v", s, l, fault, want, wrong)
	}
	if fault != (api.Fault{}) && l != nil {
		t.Errorf("%.200q: a list beside %v", s, fault)
	}
	return len(l)
}

// refused reports what Lines answers, if it is not a fault and nothing else.
func refused(t *testing.T, s string, want api.Fault) {
	t.Helper()
	if l, fault := lex.Lines(s); l != nil || fault != want {
		t.Errorf("%d bytes that begin with %.40q: %d lines, %v, not %v", len(s), s, len(l), fault, want)
	}
}

// word is a line's words of which there is one.
func word(s string, at int) []api.Word {
	return []api.Word{{Text: s, At: at}}
}

// P16.2

func TestLines(t *testing.T) {
	for _, x := range []struct {
		s    string
		want []api.Line
	}{
		{"", nil},
		{"\n", nil},
		{"\n\n\n", nil},
		{" ", nil},
		{" \t\n\t \n ", nil},
		{"#", nil},
		{"# a\n  # b\n#", nil},
		{"a", []api.Line{{N: 1, Words: word("a", 1)}}},
		{"a\n", []api.Line{{N: 1, Words: word("a", 1)}}},
		{"a\n\n", []api.Line{{N: 1, Words: word("a", 1)}}},
		{"\na", []api.Line{{N: 2, Words: word("a", 1)}}},
		{"\n\n  a\n", []api.Line{{N: 3, Words: word("a", 3)}}},
		{"a\nb", []api.Line{{N: 1, Words: word("a", 1)}, {N: 2, Words: word("b", 1)}}},
		{"a\nb\n", []api.Line{{N: 1, Words: word("a", 1)}, {N: 2, Words: word("b", 1)}}},
		{"a\n\n \t\n# c\n\tb#c\n", []api.Line{{N: 1, Words: word("a", 1)}, {N: 5, Words: word("b", 2)}}},
		{"# \x00\xff\r\na # \x7f\n#", []api.Line{{N: 2, Words: word("a", 1)}}},
		{"# a\nb", []api.Line{{N: 2, Words: word("b", 1)}}},
		{"a # b\nc d", []api.Line{{N: 1, Words: word("a", 1)}, {N: 2, Words: []api.Word{{Text: "c", At: 1}, {Text: "d", At: 3}}}}},
		{"as 65000\nid 10.0.0.1\n\nnetwork  10.0.0.0/8", []api.Line{
			{N: 1, Words: []api.Word{{Text: "as", At: 1}, {Text: "65000", At: 4}}},
			{N: 2, Words: []api.Word{{Text: "id", At: 1}, {Text: "10.0.0.1", At: 4}}},
			{N: 4, Words: []api.Word{{Text: "network", At: 1}, {Text: "10.0.0.0/8", At: 10}}},
		}},
	} {
		l, fault := lex.Lines(x.s)
		if !same(l, x.want) || fault != (api.Fault{}) {
			t.Errorf("%q: %v %v", x.s, l, fault)
		}
		lines(t, x.s)
	}
}

func TestLinesFaults(t *testing.T) {
	for _, x := range []struct {
		s    string
		want api.Fault
	}{
		{"a\n b\x7f", api.Fault{Line: 2, At: 3, Code: api.ErrForm}},
		{"\x7f", api.Fault{Line: 1, At: 1, Code: api.ErrForm}},
		{"\x7f\n", api.Fault{Line: 1, At: 1, Code: api.ErrForm}},
		{"a\r\n", api.Fault{Line: 1, At: 2, Code: api.ErrForm}},
		{"a\nb\nc\x00\n", api.Fault{Line: 3, At: 2, Code: api.ErrForm}},
		{"a\n\n\n\n  \xff", api.Fault{Line: 5, At: 3, Code: api.ErrForm}},
		{"\n\n#\x00\n \t\n\x00", api.Fault{Line: 5, At: 1, Code: api.ErrForm}},
		{"# a\n\x7f# b", api.Fault{Line: 2, At: 1, Code: api.ErrForm}},
		// The first of two.
		{"ab\x7f\n\x00", api.Fault{Line: 1, At: 3, Code: api.ErrForm}},
		{"a\n\nb \x7f\nc\n\x00d\n", api.Fault{Line: 3, At: 3, Code: api.ErrForm}},
		{"a\n" + row(65, "a", " ") + "\n\x7f", api.Fault{Line: 2, At: 129, Code: api.ErrLong}},
		{"a\n   \x7f\n" + row(65, "a", " "), api.Fault{Line: 2, At: 4, Code: api.ErrForm}},
		// As many words a line, not a text.
		{row(65, "a", " "), api.Fault{Line: 1, At: 129, Code: api.ErrLong}},
		{row(64, "a", " ") + "\n" + row(64, "b", " ") + "\n\n" + row(65, "b", "  "), api.Fault{Line: 4, At: 193, Code: api.ErrLong}},
		{row(65, "a", "\n", " ") + "\n" + row(64, "a", " ") + "#b\n\v", api.Fault{Line: 35, At: 1, Code: api.ErrForm}},
		{row(64, "a", " ") + "\n" + row(64, "a", " ") + " b\x7f", api.Fault{Line: 2, At: 129, Code: api.ErrLong}},
		{row(64, "a", " ") + "\n" + row(64, "a", " ") + "\x7f b", api.Fault{Line: 2, At: 128, Code: api.ErrForm}},
	} {
		refused(t, x.s, x.want)
		lines(t, x.s)
	}
}

// A line feed ends a word, a gap and a comment.
func TestLinesAll(t *testing.T) {
	every(6, []string{"a", "~", " ", "#", "\n", "\x7f"}, func(s string) { lines(t, s) })
	every(7, []string{"a", "\t", "\n"}, func(s string) { lines(t, s) })
}

// Each byte alone, in each part of a line, and in each line.
func TestLinesBytes(t *testing.T) {
	for b := range 256 {
		c := string([]byte{byte(b)})
		for _, s := range []string{c, c + c, "a" + c + "b", "a\n" + c + "\nb", "a\n\n" + c, c + "\na", "a # " + c + "\nb", "#" + c, "a\n#" + c + "b\n c", "a\n b" + c} {
			lines(t, s)
		}
		if b == 10 {
			continue
		}
		// Behind a # there may be any byte that ends no line.
		if l, fault := lex.Lines("a #" + c + "b\n#" + c + "\nc"); fault != (api.Fault{}) || !same(l, []api.Line{{N: 1, Words: word("a", 1)}, {N: 3, Words: word("c", 1)}}) {
			t.Errorf("%d: %v %v", b, l, fault)
		}
	}
}

// A text of 100000 bytes may be, whatever it has, and none of one more.
func TestLinesBytesMany(t *testing.T) {
	for _, x := range []struct {
		ahead, fill string
		want        int
	}{
		{"", " ", 0}, {"", "w", 1}, {"#", "w", 0}, {"a #", "\xff", 1}, {"a\n\n", "w", 2}, {"", "#", 0}, {strings.Repeat("\n", 2000), "w", 1}, {row(2000, "a", "\n") + "\n", "w", 2001},
	} {
		for _, n := range []int{99998, 99999, 100000} {
			s := x.ahead + strings.Repeat(x.fill, n-len(x.ahead))
			l, fault := lex.Lines(s)
			if len(l) != x.want || fault != (api.Fault{}) {
				t.Errorf("%d bytes: %.10q: %d lines, %v", n, s, len(l), fault)
			}
		}
		for _, n := range []int{100001, 100002, 1 << 17, 1 << 20} {
			refused(t, x.ahead+strings.Repeat(x.fill, n-len(x.ahead)), api.Fault{Code: api.ErrLong})
		}
	}
	full := strings.Repeat("w", 99999)
	if l, fault := lex.Lines(full + "\n"); !same(l, []api.Line{{N: 1, Words: word(full, 1)}}) || fault != (api.Fault{}) {
		t.Error(len(l), fault)
	}
	refused(t, full+"w\n", api.Fault{Code: api.ErrLong})
	refused(t, full+"\x7f", api.Fault{Line: 1, At: 100000, Code: api.ErrForm})
	refused(t, full+"\n\n", api.Fault{Code: api.ErrLong})
}

// There may be 2000 line feeds, and what stands behind the last one is the line 2001.
func TestLinesMany(t *testing.T) {
	for _, x := range []struct {
		s    string
		want int
	}{
		{strings.Repeat("\n", 1999), 0},
		{strings.Repeat("\n", 2000), 0},
		{strings.Repeat("a\n", 2000), 2000},
		{strings.Repeat("a\n", 2000) + "b", 2001},
		{strings.Repeat("#\n", 2000) + "b", 1},
		{strings.Repeat("\n", 2000) + "b c # d", 1},
	} {
		if n := lines(t, x.s); n != x.want {
			t.Errorf("%.10q: %d lines", x.s, n)
		}
	}
	l, fault := lex.Lines(strings.Repeat("\n", 2000) + " b")
	if !same(l, []api.Line{{N: 2001, Words: word("b", 2)}}) || fault != (api.Fault{}) {
		t.Error(l, fault)
	}
	refused(t, strings.Repeat("\n", 2000)+" \x7f", api.Fault{Line: 2001, At: 2, Code: api.ErrForm})
	for _, s := range []string{"\n", "a\n", "#\n", "a b \n", " \t\n"} {
		refused(t, strings.Repeat(s, 2001), api.Fault{Code: api.ErrLong})
		refused(t, strings.Repeat(s, 2001)+"a", api.Fault{Code: api.ErrLong})
		refused(t, strings.Repeat(s, 5000), api.Fault{Code: api.ErrLong})
	}
}

// A text that is too long is told ahead of any bad line.
func TestLinesFirst(t *testing.T) {
	for _, bad := range []string{"\x7f", "a \x00", row(65, "a", " "), "\n\n\xff"} {
		for _, s := range []string{
			bad + strings.Repeat(" ", 100001-len(bad)), strings.Repeat(" ", 100001-len(bad)) + bad, bad + strings.Repeat("\n", 2001), strings.Repeat("\n", 2001) + bad, bad + strings.Repeat("\n", 100001),
		} {
			refused(t, s, api.Fault{Code: api.ErrLong})
		}
		lines(t, bad+strings.Repeat(" ", 100000-len(bad)))
		lines(t, strings.Repeat(" ", 100000-len(bad))+bad)
		lines(t, bad+strings.Repeat("\n", 2000-strings.Count(bad, "\n")))
	}
}

// The same line gives the same words, whatever stands ahead of it and behind it.
func TestLinesCut(t *testing.T) {
	for _, s := range []string{"a", " a b", "a\t#b", row(64, "a", " "), "~!", "word other-word\t"} {
		words, fault := lex.Cut(s)
		if fault != (api.Fault{}) {
			t.Fatal(s, fault)
		}
		for n := range 20 {
			l, fault := lex.Lines(strings.Repeat(" \n", n) + s + "\n\n" + s)
			if !same(l, []api.Line{{N: n + 1, Words: words}, {N: n + 3, Words: words}}) || fault != (api.Fault{}) {
				t.Errorf("%q: %v %v", s, l, fault)
			}
		}
	}
}
