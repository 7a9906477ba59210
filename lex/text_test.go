package lex_test

import (
	"math"
	"strconv"
	"strings"
	"testing"

	"confluence/api"
	"confluence/lex"
)

const (
	letters = "abcdefghijklmnopqrstuvwxyzABCDEFGHIJKLMNOPQRSTUVWXYZ"
	inner   = letters + "0123456789-_"
)

// P16.3: Name

func TestName(t *testing.T) {
	for _, s := range []string{"a", "Z", "z9", "a-", "a_", "A-b_C-9", "in", "OUT-1", "a--__--", "abcdefghijklmnopqrst", "a0123456789-_0123456", strings.Repeat("x", 20)} {
		if !lex.Name(s) {
			t.Errorf("%q is a name", s)
		}
	}
	for _, s := range []string{
		"", " ", "1", "9a", "-", "-a", "_", "_a", "a ", " a", "a b", "a\n", "\na", "a\x00", "a.b", "a/b", "a:b", "a#", "#", "*", "a+", "a=b", "{a}", "a\u00e9", "\u00e9", "a\xff", "\xff", "\u0430", "a\u0660",
		"abcdefghijklmnopqrstu", strings.Repeat("x", 21), strings.Repeat("x", 100000), "1" + strings.Repeat("x", 19), strings.Repeat("x", 19) + " ", strings.Repeat("x", 19) + "\u00e9",
	} {
		if lex.Name(s) {
			t.Errorf("%.30q is no name", s)
		}
	}
}

// Each byte in the first place, in the second one and in the last one, of names of each length.
func TestNameBytes(t *testing.T) {
	for b := range 256 {
		c := string([]byte{byte(b)})
		first, later := strings.Contains(letters, c), strings.Contains(inner, c)
		if lex.Name(c) != first {
			t.Errorf("%q: not %v", c, first)
		}
		for n := range 25 {
			fill := strings.Repeat("m", n)
			for s, good := range map[string]bool{c + fill: first, "a" + c + fill: later, "a" + fill + c: later, "Z" + fill + c + "_": later} {
				if want := good && len(s) <= 20; lex.Name(s) != want {
					t.Errorf("%q: not %v", s, want)
				}
			}
		}
	}
}

// P16.3: Number

func TestNumber(t *testing.T) {
	for _, x := range []struct {
		s    string
		most int
		want int
	}{
		{"65535", 65535, 65535}, {"0", 65535, 0}, {"1", 65535, 1}, {"10", 65535, 10}, {"9", 9, 9}, {"65534", 65535, 65534},
		{"0", 0, 0}, {"0", 1, 0}, {"1", 1, 1}, {"0", math.MaxInt, 0}, {"100", 100, 100}, {"4294967295", math.MaxUint32, math.MaxUint32},
		{"9223372036854775807", math.MaxInt, math.MaxInt}, {"9223372036854775806", math.MaxInt, math.MaxInt - 1}, {"9223372036854775806", math.MaxInt - 1, math.MaxInt - 1}, {"1000000000000000000", math.MaxInt, 1e18},
	} {
		if n, ok := lex.Number(x.s, x.most); n != x.want || !ok {
			t.Errorf("%q up to %d: %d %v", x.s, x.most, n, ok)
		}
	}
	for _, x := range []struct {
		s    string
		most int
	}{
		{"65536", 65535}, {"01", 65535}, {"+1", 65535}, {"1", 0}, {"10", 9}, {"101", 100}, {"65545", 65535}, {"4294967296", math.MaxUint32}, {"9223372036854775807", math.MaxInt - 1},
		{"0", -1}, {"1", -1}, {"-1", -1}, {"-1", 0}, {"-0", 0}, {"0", math.MinInt}, {"1", math.MinInt}, {"9223372036854775808", math.MinInt}, {"-9223372036854775808", math.MinInt}, {"9223372036854775808", -1}, {"18446744073709551615", -1},
	} {
		if n, ok := lex.Number(x.s, x.most); n != 0 || ok {
			t.Errorf("%q up to %d: %d %v", x.s, x.most, n, ok)
		}
	}
}

// noNumbers are texts that are no number, however great it may be.
func noNumbers() []string {
	return []string{
		"", " ", "00", "01", "000", "007", "065535", "0000000001", "+", "-", "+0", "-0", "+1", "-1", "--1", "1-", "1+", " 1", "1 ", "1 2", "\t1", "1\t", "1\n", "\n1", "1\r", "1\x00", "\x001", "1\xff", "\xff", "0x1", "0X1", "0b1", "0o1", "x1", "a", "1a", "a1", "ff", "1_0", "_1", "1_", "0_1", "1.0", "1.", ".1", "1,0", "1e1", "1E1", "1:1", "1/1", "1#", "/", ":", "\u0661", "\uff11", "1\u0661", "\u00b2", "inf", "nan", "1/", "1:",
		"9223372036854775808", "9223372036854775817", "9999999999999999999", "10000000000000000000", "18446744073709551615", "18446744073709551616", "18446744073709551617", "92233720368547758070", "184467440737095516160", "340282366920938463463374607431768211457",
		strings.Repeat("1", 100), strings.Repeat("9", 100000), strings.Repeat("0", 100000), "1" + strings.Repeat("0", 64), "0" + strings.Repeat("9", 5),
	}
}

func TestNumberRefuses(t *testing.T) {
	for _, s := range noNumbers() {
		for _, most := range []int{math.MinInt, -1, 0, 1, 9, 65535, math.MaxUint32, math.MaxInt - 1, math.MaxInt} {
			if n, ok := lex.Number(s, most); n != 0 || ok {
				t.Errorf("%.30q up to %d: %d %v", s, most, n, ok)
			}
		}
	}
	// One byte that is no digit at each place.
	for b := range 256 {
		if '0' <= b && b <= '9' {
			continue
		}
		for i := range 4 {
			s := "123"[:i] + string([]byte{byte(b)}) + "123"[i:]
			if n, ok := lex.Number(s, math.MaxInt); n != 0 || ok {
				t.Errorf("%q: %d %v", s, n, ok)
			}
		}
	}
}

// Each number on both sides of some bounds, held against bounds on both sides of it.
func TestNumberBounds(t *testing.T) {
	for _, at := range []int{0, 5, 10, 100, 255, 256, 999, 1000, 65535, 65536, 99999, 100000, 1 << 31, math.MaxUint32, 1e10, 1 << 53, 1e18, math.MaxInt - 5} {
		for n := max(at-5, 0); n <= at+5; n++ {
			for most := at - 5; most <= at+5; most++ {
				want, good := n, n <= most
				if !good {
					want = 0
				}
				if m, ok := lex.Number(strconv.Itoa(n), most); m != want || ok != good {
					t.Errorf("%d up to %d: %d %v", n, most, m, ok)
				}
				if n == math.MaxInt || most == math.MaxInt {
					break
				}
			}
			if n == math.MaxInt {
				break
			}
		}
	}
}

// Of all short texts those are numbers that are written so.
func TestNumberAll(t *testing.T) {
	written := map[string]int{}
	for n := range 100000 {
		written[strconv.Itoa(n)] = n
	}
	every(5, []string{"0", "1", "5", "9", "+", "-", " ", "_"}, func(s string) {
		want, good := written[s]
		if n, ok := lex.Number(s, 99999); n != want || ok != good {
			t.Errorf("%q: %d %v", s, n, ok)
		}
		if good = good && want <= 1519; !good {
			want = 0
		}
		if n, ok := lex.Number(s, 1519); n != want || ok != good {
			t.Errorf("%q up to 1519: %d %v", s, n, ok)
		}
	})
}

// P16.3: Text

func TestText(t *testing.T) {
	for _, x := range []struct {
		l    []string
		want string
	}{
		{nil, ""}, {[]string{}, ""}, {[]string{""}, ""}, {[]string{"", ""}, " "}, {[]string{"", "", ""}, "  "},
		{[]string{"a"}, "a"}, {[]string{"a", "b"}, "a b"}, {[]string{"a", "", "b"}, "a  b"}, {[]string{"", "a"}, " a"}, {[]string{"a", ""}, "a "},
		{[]string{"a", "bc", "def"}, "a bc def"}, {[]string{" ", "\t"}, "  \t"}, {[]string{"a b", "c"}, "a b c"}, {[]string{"#", "\n", "\xff\x00"}, "# \n \xff\x00"}, {[]string{"a", "a", "a"}, "a a a"},
	} {
		if s := lex.Text(x.l...); s != x.want {
			t.Errorf("%q: %q", x.l, s)
		}
	}
	if s := lex.Text(); s != "" {
		t.Errorf("nothing: %q", s)
	}
	if s := lex.Text("neighbor", "10.0.0.1", "as", "65000"); s != "neighbor 10.0.0.1 as 65000" {
		t.Errorf("%q", s)
	}
	l := strings.Split(strings.Repeat("w", 5000), "")
	if s := lex.Text(l...); s != strings.Repeat("w ", 4999)+"w" {
		t.Errorf("many: %d bytes", len(s))
	}
}

// P16.3: Join

func TestJoin(t *testing.T) {
	for _, x := range []struct {
		l    []api.Line
		want string
	}{
		{nil, ""},
		{[]api.Line{}, ""},
		{[]api.Line{{}}, "\n"},
		{[]api.Line{{N: 7}, {N: 3, Words: []api.Word{}}, {}}, "\n\n\n"},
		{[]api.Line{{N: 1, Words: word("a", 1)}}, "a\n"},
		{[]api.Line{{Words: word("a", 9)}}, "a\n"},
		{[]api.Line{{N: 5, Words: word("a", 3)}, {N: 2, Words: []api.Word{{Text: "b", At: 9}, {Text: "cd", At: -1}}}}, "a\nb cd\n"},
		{[]api.Line{{N: 1, Words: word("a", 1)}, {}, {N: 4, Words: word("b", 1)}}, "a\n\nb\n"},
		{[]api.Line{{Words: word("", 0)}}, "\n"},
		{[]api.Line{{Words: []api.Word{{}, {}}}, {Words: word("", 0)}}, " \n\n"},
		{[]api.Line{{Words: []api.Word{{Text: "a b"}, {Text: "#"}, {Text: "\n"}}}}, "a b # \n\n"},
	} {
		if s := lex.Join(x.l); s != x.want {
			t.Errorf("%v: %q", x.l, s)
		}
	}
	many := make([]api.Line, 5000)
	for i := range many {
		many[i].Words = []api.Word{{Text: "a"}, {Text: "b"}}
	}
	if s := lex.Join(many); s != strings.Repeat("a b\n", 5000) {
		t.Errorf("many: %d bytes", len(s))
	}
}

// joined reports what Lines answers of Join of lines that Lines gave, if it has other words.
func joined(t *testing.T, s string) {
	t.Helper()
	l, fault := lex.Lines(s)
	if fault != (api.Fault{}) {
		return
	}
	text := lex.Join(l)
	// The line feed of the last line may be the one that is too many.
	if len(text) > 100000 || strings.Count(text, "\n") > 2000 {
		refused(t, text, api.Fault{Code: api.ErrLong})
		return
	}
	again, fault := lex.Lines(text)
	if fault != (api.Fault{}) || len(again) != len(l) {
		t.Errorf("%.200q: %.200q: %d lines, not %d, %v", s, text, len(again), len(l), fault)
		return
	}
	for i, line := range again {
		if line.N != i+1 || len(line.Words) != len(l[i].Words) {
			t.Errorf("%.200q: %.200q: %v, not %v", s, text, line, l[i])
			continue
		}
		at := 1
		for j, w := range line.Words {
			if w.Text != l[i].Words[j].Text || w.At != at {
				t.Errorf("%.200q: %.200q: %v, not %v", s, text, line, l[i])
			}
			at += len(w.Text) + 1
		}
	}
	if twice := lex.Join(again); twice != text {
		t.Errorf("%.200q: %.200q, then %.200q", s, text, twice)
	}
}

// P16.4

func TestJoined(t *testing.T) {
	every(6, []string{"a", "bc", " ", "\t", "#", "\n"}, func(s string) { joined(t, s) })
	for _, s := range []string{
		row(64, "a", "\t ", " "), row(3, row(64, "ab", " "), "\n", "#\n\n"), row(2000, "a", "\n"), strings.Repeat("a\n", 2000), strings.Repeat("a\n", 2000) + "b", strings.Repeat("a b #\n", 2000), strings.Repeat("\n", 2000) + "b",
		strings.Repeat("w", 100000), strings.Repeat("w", 99999), strings.Repeat("w", 99999) + "\n", " " + strings.Repeat("w", 99999), "a\n\n#\n  b\tc",
	} {
		if _, fault := lex.Lines(s); fault != (api.Fault{}) {
			t.Errorf("%.40q: %v", s, fault)
		}
		joined(t, s)
	}
}

func FuzzLines(f *testing.F) {
	for _, s := range []string{"", "a  bc # d", "a\n b\x7f", "\n\n", "# a\nb\t c\n", row(64, "a", " "), row(65, "a", " "), "a\r\n", "\xff", strings.Repeat("\n", 2001), "01", "65535", "in-1_x"} {
		f.Add(s)
	}
	f.Fuzz(func(t *testing.T, s string) {
		cut(t, s)
		lines(t, s)
		joined(t, s)
		if n, ok := lex.Number(s, math.MaxInt); ok && strconv.Itoa(n) != s || !ok && n != 0 {
			t.Errorf("%q: %d %v", s, n, ok)
		}
		if words, fault := lex.Cut(s); lex.Name(s) && (fault != (api.Fault{}) || len(words) != 1 || words[0].Text != s) {
			t.Errorf("%q: a name that is no word", s)
		}
	})
}
