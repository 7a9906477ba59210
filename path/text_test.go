package path_test

import (
	"math"
	"strconv"
	"strings"
	"testing"

	"confluence/api"
	"confluence/path"
)

// tell shows any segments in a test's words: each with its Kind, and long ones by how many numbers they have.
func tell(l []api.Seg) string {
	s := ""
	for _, x := range l {
		s += "(" + strconv.Itoa(x.Kind) + ":"
		for i, n := range x.AS {
			if i < 4 {
				s += " " + strconv.FormatUint(uint64(n), 10)
			}
		}
		if len(x.AS) > 4 {
			s += " .. " + strconv.Itoa(len(x.AS))
		}
		s += ")"
	}
	return s
}

// words is numbers in digits with spaces between them.
func words(l []uint32) string {
	var w []string
	for _, n := range l {
		w = append(w, strconv.FormatUint(uint64(n), 10))
	}
	return strings.Join(w, " ")
}

// P4.4

func TestText(t *testing.T) {
	for _, x := range []struct {
		l    []api.Seg
		want string
	}{
		{nil, "-"}, {way(), "-"}, {example(), "1 2 {3 4} 5"}, {way(seq(0)), "0"}, {way(set(0)), "{0}"}, {way(seq(7, 7, 7)), "7 7 7"}, {way(set(1, 2), set(1)), "{1 2} {1}"},
		{way(seq(math.MaxUint32)), "4294967295"}, {way(set(0, math.MaxUint32), seq(math.MaxUint32, 0)), "{0 4294967295} 4294967295 0"}, {way(set(1), seq(2), set(3)), "{1} 2 {3}"},
		{way(seq(count(0, 255)...), seq(255)), words(count(0, 256))}, {way(set(count(9, 255)...)), "{" + words(count(9, 255)) + "}"}, {way(seq(10, 100, 1000), set(99, 999)), "10 100 1000 {99 999}"},
		// Paths that are not good are written too.
		{way(seq(1), seq(2)), "1 2"}, {way(set(2, 1, 2)), "{2 1 2}"}, {way(seq(1), seq(), seq(2)), "1 2"}, {way(set(count(0, 256)...)), "{" + words(count(0, 256)) + "}"}, {way(set(1), seq(), set(2)), "{1} {2}"},
	} {
		if s := path.Text(x.l); s != x.want {
			t.Errorf("%s: %q", tell(x.l), s)
		}
	}
}

// Every good path of few segments is written and read again.
func TestTextParse(t *testing.T) {
	good := 0
	for _, l := range append(ways(3, pool()), ways(4, []api.Seg{seq(3, 1, 3), set(0), set(2, 5), seq(count(0, 255)...), seq(math.MaxUint32)})...) {
		if !path.Good(l) {
			continue
		}
		good++
		var w []string
		for _, s := range l {
			if s.Kind == 1 {
				w = append(w, "{"+words(s.AS)+"}")
			} else {
				w = append(w, words(s.AS))
			}
		}
		want := strings.Join(w, " ")
		if want == "" {
			want = "-"
		}
		if s := path.Text(l); s != want {
			t.Errorf("%s: %q", tell(l), s)
		}
		if got, e := path.Parse(want); !equal(got, l) || e != api.OK {
			t.Errorf("%.40q: %s %v", want, tell(got), e)
		}
	}
	if good < 500 {
		t.Error("good paths", good)
	}
}

func TestParse(t *testing.T) {
	for s, want := range map[string][]api.Seg{
		"-": nil, "0": way(seq(0)), "{0}": way(set(0)), "1 2 {3 4} 5": example(), "{1 2} {1}": way(set(1, 2), set(1)), "7 7 7": way(seq(7, 7, 7)), "4294967295": way(seq(math.MaxUint32)),
		"{0 4294967295}": way(set(0, math.MaxUint32)), "{1} {1}": way(set(1), set(1)), "{2} {1}": way(set(2), set(1)), "2 1 {2 10} {1}": way(seq(2, 1), set(2, 10), set(1)), "{1} 2 {3}": way(set(1), seq(2), set(3)),
	} {
		if l, e := path.Parse(s); !equal(l, want) || e != api.OK {
			t.Errorf("%q: %s %v", s, tell(l), e)
		}
	}
}

// noPaths are texts that no good path has.
func noPaths() []string {
	return []string{
		"{2 1}", "{}", "1{2}", "{1 1}", "{1 3 2}", "{1 2 2}", "{0 0}", "{4294967295 0}", "{1 2 1}", "{10 9}",
		"", " ", "  ", "1 ", " 1", "1  2", "1 2 ", " 1 2", "1   2", "\t1", "1\t2", "1\n", "1\n2", "1\r", "1\x00", "\x001", "1\u00a02", "\ufeff1", "1\v2", "1,2", "1, 2", "1;2", "1.2", "1-2", "1_2", "1/2", "1:2",
		"--", "- ", " -", "- -", "- 1", "1 -", "1 - 2", "-1", "-0", "1 -2", "- {1}", "{1} -", "{-}", "{- 1}", "{1 -}", "{-1}", "-{1}", "{1}-", "1 {-}", "{-} 1", "-\n",
		"01", "00", "001", "1 02", "01 2", "{01}", "{1 02}", "{00}", "+1", "+0", "{+1}", "1 +2", "0x1", "0b1", "0o7", "1e1", "1_0", "0_1", "1.0", "a", "f", "1 a", "a 1", "{a}", "1a", "a1",
		"4294967296", "4294967297", "{4294967296}", "1 4294967296", "42949672950", "9999999999", "18446744073709551616", "18446744073709551617", "340282366920938463463374607431768211457",
		"{", "}", "{}{}", "{} {}", "{} 1", "1 {}", "1 {} 2", "{1} {}", "{} {1}", "}{", "} {", "{ }", "{  }", "{{", "}}", "{{}}", "{{1}}", "{1}}", "{{1}", "{ {1}}", "{{1} }", "{{1} {2}}", "{1 {2} 3}", "{1 {2}}", "{{1} 2}",
		"{1", "1}", "{1 2", "1 2}", "1 {2", "1} 2", "{1} 2}", "{1} {2", "{1 {2}", "1 }", "{ 1", "1 2 {", "1 {", "} 1", "{1} }", "{1} {", "1 2} 3", "1 {2 3", "{1}{", "{1 2 {3}",
		"{1}{2}", "{1}2", "1{2} 3", "1 {2}3", "1{2}3", "{1}{1}", "1 {2}{3}", "1{2", "1 2{3}", "{1}2 3",
		"{ 1}", "{1 }", "{ 1 }", "{1  2}", "{ 1 2}", "{1 2 }", " {1}", "{1} ", " {1} ", "{1}  {2}", "1  {2}", "{1}  2", "  {1}", "{1}  ", "1 {2} ", " 1 {2}", "1 { 2}", "1 {2 }", "{1},{2}", "{1,2}", "{1, 2}", "{1}\n", "{1}\t{2}", "{1\t2}", "1\t{2}", "{\n1}",
		"(1)", "[1]", "<1>", "(1 2)", "[1 2]", "{1)", "(1}", "1 (2)", "\"1\"", "{1 2) {3}", "\u0661", "\uff11", "\u00b9", "{\uff11}", "\uff5b1\uff5d", "\xff", "1\xff", "\xb1", "none", "nil", "i", "?",
	}
}

func TestParseRefuses(t *testing.T) {
	for _, s := range noPaths() {
		// Good neighbours, with a space between, mend nothing.
		for _, s := range []string{s, "{7} " + s, s + " {7}", "5 " + s, s + " 5", "0 {7} 6 " + s + " 0 {7}", "{" + s + "}"} {
			if l, e := path.Parse(s); l != nil || e != api.ErrForm {
				t.Errorf("%q: %s %v", s, tell(l), e)
			}
		}
	}
	for _, s := range []string{
		strings.Repeat("9", 10000), strings.Repeat("0", 10000), strings.Repeat(" ", 10000), strings.Repeat("{", 10000), strings.Repeat("}", 10000), strings.Repeat("{}", 10000), strings.Repeat("{1}", 10000), strings.Repeat("{1} ", 10000), strings.Repeat("1 ", 10000), strings.Repeat(" {", 10000), strings.Repeat("- ", 10000), strings.Repeat(" {1", 10000), strings.Repeat("{1 ", 10000), strings.Repeat("} ", 10000),
	} {
		if l, e := path.Parse(s); l != nil || e != api.ErrForm {
			t.Errorf("%.20q: %d segments, %v", s, len(l), e)
		}
	}
}

// One byte at every place of texts: what is read is what is written of it; no byte but a digit or a space may come in.
func TestParseBytes(t *testing.T) {
	for _, s := range []string{"12 34", "1 2 {3 4} 5", "{1 2} {3}", "7 {8}", "-"} {
		for b := range 256 {
			for i := range len(s) + 1 {
				s := s[:i] + string([]byte{byte(b)}) + s[i:]
				l, e := path.Parse(s)
				if e == api.OK && (!path.Good(l) || path.Text(l) != s) || e != api.OK && (e != api.ErrForm || l != nil) {
					t.Errorf("%q: %s %v", s, tell(l), e)
				}
				if e == api.OK && !strings.Contains("0123456789 ", string([]byte{byte(b)})) {
					t.Errorf("%q: %s", s, tell(l))
				}
			}
			for i := range len(s) {
				s := s[:i] + string([]byte{byte(b)}) + s[i+1:]
				l, e := path.Parse(s)
				if e == api.OK && (!path.Good(l) || path.Text(l) != s) || e != api.OK && (e != api.ErrForm || l != nil) {
					t.Errorf("%q: %s %v", s, tell(l), e)
				}
			}
		}
	}
}

// Sequences have no bound of their own, as they are split; sets do, and so do segments.
func TestParseBounds(t *testing.T) {
	for _, size := range []int{1, 254, 255, 256, 257, 509, 510, 511, 2000, 25499, 25500, 25501, 25755, 51000} {
		l, e := path.Parse(words(count(7, size)))
		if size <= 25500 && (e != api.OK || !equal(l, path.Seq(count(7, size)...)) || !path.Good(l)) || size > 25500 && (e != api.ErrForm || l != nil) {
			t.Error(size, len(l), e)
		}
	}
	for _, size := range []int{1, 254, 255, 256, 257, 510, 1000, 25500} {
		s := "{" + words(count(7, size)) + "}"
		for _, s := range []string{s, "1 " + s, s + " 1", "{1} " + s, s + " {1}", s + " " + s} {
			l, e := path.Parse(s)
			if (e == api.OK) != (size <= 255) || e != api.OK && (e != api.ErrForm || l != nil) || e == api.OK && path.Text(l) != s {
				t.Error(size, len(l), e)
			}
		}
	}
	for _, size := range []int{1, 2, 99, 100, 101, 102, 200, 1000} {
		var sets, mixed, full []string
		for i := range size {
			sets = append(sets, "{7}")
			mixed = append(mixed, []string{"{7 8}", "9 9"}[i%2])
			full = append(full, "{"+words(count(uint32(i), 255))+"}")
		}
		for _, w := range [][]string{sets, mixed, full} {
			s := strings.Join(w, " ")
			l, e := path.Parse(s)
			if size <= 100 && (e != api.OK || len(l) != size || path.Text(l) != s) || size > 100 && (e != api.ErrForm || l != nil) {
				t.Error(size, len(l), e)
			}
		}
	}
	// One number too many for the sequence makes one segment too many for the path.
	sets := strings.Repeat(" {7}", 99)
	for _, size := range []int{254, 255, 256} {
		for _, s := range []string{words(count(7, size)) + sets, sets[1:] + " " + words(count(7, size))} {
			l, e := path.Parse(s)
			if size <= 255 && (e != api.OK || len(l) != 100 || path.Text(l) != s) || size > 255 && (e != api.ErrForm || l != nil) {
				t.Error(size, len(l), e)
			}
		}
	}
}

// What is read is good, and has the very text it was read from: no second text for one path.
func FuzzParse(f *testing.F) {
	for _, s := range append(noPaths(), "-", "1", "{1}", "1 2 {3 4} 5", "{1 2} {1}", "7 7 7", "0 {0 4294967295} 4294967295", words(count(0, 256))) {
		f.Add(s)
	}
	f.Fuzz(func(t *testing.T, s string) {
		l, e := path.Parse(s)
		if e == api.OK && (path.Text(l) != s || !path.Good(l) || !equal(path.Norm(l), l)) || e != api.OK && (e != api.ErrForm || l != nil) {
			t.Errorf("%q: %s %v", s, tell(l), e)
		}
	})
}
