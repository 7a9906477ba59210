package comm_test

import (
	"math"
	"slices"
	"strconv"
	"strings"
	"testing"

	"confluence/api"
	"confluence/comm"
)

// write puts two halves together digit by digit, so that it owes nothing to what it checks.
func write(as, n int) string {
	return strconv.Itoa(as) + ":" + strconv.Itoa(n)
}

// P3.2

func TestText(t *testing.T) {
	for _, x := range []struct {
		c    uint32
		want string
	}{
		{0xfde80064, "65000:100"}, {0, "0:0"}, {1, "0:1"}, {65535, "0:65535"}, {65536, "1:0"}, {0xffff0000, "65535:0"}, {math.MaxUint32, "65535:65535"},
		{1 << 31, "32768:0"}, {0x7fffffff, "32767:65535"}, {0x000a000b, "10:11"}, {0x03e8270f, "1000:9999"},
		{noExport, "no-export"}, {noAdvertise, "no-advertise"}, {noSubconfed, "no-export-subconfed"},
		{0xffffff00, "65535:65280"}, {0xffffff04, "65535:65284"}, {0xfffeff01, "65534:65281"}, {0x0000ff01, "0:65281"}, {0xffff0001, "65535:1"},
	} {
		if s := comm.Text(x.c); s != x.want {
			t.Errorf("%08x: %q", x.c, s)
		}
		if c, e := comm.Parse(x.want); c != x.c || e != api.OK {
			t.Errorf("%q: %08x %v", x.want, c, e)
		}
	}
	for _, as := range halves {
		for _, n := range halves {
			c, want := comm.Make(as, n), write(int(as), int(n))
			if as == 65535 && n >= 0xff01 && n <= 0xff03 {
				continue
			}
			if s := comm.Text(c); s != want {
				t.Errorf("%08x: %q", c, s)
			}
			if x, e := comm.Parse(want); x != c || e != api.OK {
				t.Errorf("%q: %08x %v", want, x, e)
			}
		}
	}
}

// P3.2 and P3.3: every lower half behind some upper ones, and every upper half ahead of some lower ones.
func TestTextsDiffer(t *testing.T) {
	seen := map[string]uint32{}
	see := func(c uint32) {
		s := comm.Text(c)
		if other, ok := seen[s]; ok && other != c {
			t.Errorf("%08x and %08x: %q", other, c, s)
		}
		seen[s] = c
		if x, e := comm.Parse(s); x != c || e != api.OK {
			t.Errorf("%08x: %q: %08x %v", c, s, x, e)
		}
	}
	for i := range uint32(65536) {
		for _, half := range []uint32{0, 1, 11, 6553, 65535} {
			see(half<<16 | i)
			see(i<<16 | half)
		}
		see(i<<16 | 0xff01)
	}
	for _, c := range near {
		see(c)
	}
}

// noComms are texts that no community has, alone or within a list.
func noComms() []string {
	l := []string{
		"", ":", "::", ":::", "1", "1:", ":1", "0", "65535", "1:2:3", "1::2", ":1:2", "1:2:", "1.2", "1,2", "1/2", "1;2", "1-2", "1_2", "1\uff1a2",
		"65536:1", "1:65536", "65536:65536", "65536:0", "0:65536", "65537:1", "65545:1", "70000:1", "99999:1", "100000:1", "1:131072", "655350:1", "1:655350",
		"4294967295", "4294967295:0", "0:4294967295", "4294967296:1", "1:4294967296", "4294967297:1", "18446744073709551616:1", "1:18446744073709551617", "340282366920938463463374607431768211457:1",
		"01:1", "1:01", "00:1", "1:00", "0:00", "00:0", "00:00", "01:01", "000:0", "065535:1", "1:065535", "065000:100", "65000:0100", "0000000001:1", "1:0000000001", "00065535:65281",
		"65535:65281", "65535:65282", "65535:65283", "065535:65281", "65535:065281",
		"+1:1", "1:+1", "-1:1", "1:-1", "-0:0", "0:-0", "+0:0", "0:+0", "+:1", "-:1", "1:-",
		"1:1\n", "\n1:1", "\t1:1", "1:1\t", "1\t:1", "1:1\r", "1:1\x00", "\x001:1", "1:1\v", "1\u00a0:1", "\ufeff1:1",
		"1_0:1", "1:1_0", "1e1:1", "1:1e1", "1.0:1", "1:1.0", "0x1:1", "1:0x1", "0b1:1", "0o7:1", "a:b", "1:b", "a:1", "1a:1", "1:1a", "f:f", "fde80064", "0xfde80064", "ffffff01", "ffff:ff01",
		"\u0661:1", "1:\uff11", "\u00b9:1", "\xff:1", "1:\xff", "\xb1:1",
		"{1:1}", "(1:1)", "[1:1]", "\"1:1\"", "1:1,", "none", "internet", "local-as", "nil", "_",
		"no-Export", "No-export", "NO-EXPORT", "no_export", "noexport", "no export", "no-export-", "-no-export", "no-expor", "no-exports", "o-export", "no--export", "no-export\n", "no-export\x00",
		"no-export-sub", "no-export-subconfe", "no-export-subconfeds", "no-export-subconfed-", "no-export_subconfed", "no-exportsubconfed", "no-subconfed", "no-export-subConfed", "no-export-confed", "no-export-subconfederation",
		"no-advertis", "no-advertised", "no-advertise-", "no-Advertise", "no_advertise", "no-advertize", "no-advertise-subconfed", "no-", "no", "-", "--", "no\u2010export",
		"no-export:1", "1:no-export", "no-export:", ":no-export", "no-exportno-export", "no-export1:1", "65535:no-export",
		strings.Repeat("9", 10000) + ":1", "1:" + strings.Repeat("9", 10000), strings.Repeat("0", 10000) + "1:1", "1:" + strings.Repeat("0", 10000), strings.Repeat(":", 10000), strings.Repeat("1:", 10000), strings.Repeat("no-export", 1000),
	}
	return l
}

func TestParseRefuses(t *testing.T) {
	more := []string{" ", "  ", " 1:1", "1:1 ", "1 :1", "1: 1", " 1:1 ", "1 1", "1:1 1:2", "no-export ", " no-export", "no-export no-advertise", "- ", " -"}
	for _, s := range append(noComms(), more...) {
		if c, e := comm.Parse(s); c != 0 || e != api.ErrForm {
			t.Errorf("%.40q: %08x %v", s, c, e)
		}
	}
	// One byte that is no digit at every place of a text.
	for b := range 256 {
		if '0' <= b && b <= '9' {
			continue
		}
		for _, s := range []string{"12:34", "no-export", "no-advertise", "no-export-subconfed"} {
			for i := range len(s) + 1 {
				s := s[:i] + string([]byte{byte(b)}) + s[i:]
				if c, e := comm.Parse(s); c != 0 || e != api.ErrForm {
					t.Errorf("%q: %08x %v", s, c, e)
				}
			}
		}
	}
}

// Halves beyond 65535 are refused, not cut off; and each community that has a name is read by that alone.
func TestParseBounds(t *testing.T) {
	for _, n := range []int{65536, 65537, 65538, 131071, 131072, 1 << 24, 1<<24 + 1, 1<<31 - 1, 1 << 31, 1<<32 - 1, 1 << 32, 1<<32 + 1, 1 << 48, math.MaxInt} {
		for _, half := range []int{0, 1, 100, 65535} {
			for _, s := range []string{write(n, half), write(half, n)} {
				if c, e := comm.Parse(s); c != 0 || e != api.ErrForm {
					t.Errorf("%q: %08x %v", s, c, e)
				}
			}
		}
	}
	for n := range 65536 {
		c, e := comm.Parse(write(65535, n))
		if n >= 65281 && n <= 65283 {
			if c != 0 || e != api.ErrForm {
				t.Errorf("65535:%d: %08x %v", n, c, e)
			}
		} else if c != uint32(0xffff0000+n) || e != api.OK {
			t.Errorf("65535:%d: %08x %v", n, c, e)
		}
	}
}

func TestTexts(t *testing.T) {
	for _, x := range []struct {
		l    []uint32
		want string
	}{
		{nil, "-"}, {[]uint32{}, "-"}, {[]uint32{0}, "0:0"}, {[]uint32{math.MaxUint32}, "65535:65535"}, {[]uint32{noExport}, "no-export"},
		{[]uint32{noAdvertise, 1}, "no-advertise 0:1"}, {[]uint32{1, noAdvertise}, "0:1 no-advertise"}, {[]uint32{65537, 65538, noExport}, "1:1 1:2 no-export"},
		{[]uint32{7, 7, 0}, "0:7 0:7 0:0"}, {[]uint32{0, 0}, "0:0 0:0"},
		{[]uint32{noSubconfed, noAdvertise, noExport}, "no-export-subconfed no-advertise no-export"},
		{[]uint32{0, 65535, 65536, 0xffffff00, noExport, noAdvertise, noSubconfed, 0xffffff04, math.MaxUint32}, "0:0 0:65535 1:0 65535:65280 no-export no-advertise no-export-subconfed 65535:65284 65535:65535"},
	} {
		if s := comm.Texts(x.l); s != x.want {
			t.Errorf("%08x: %q", x.l, s)
		}
	}
}

// Every short list is written; what is a set is read again, and what is none is refused.
func TestParseAll(t *testing.T) {
	for _, l := range lists(4, 0, 65535, 65536, noExport, noAdvertise, noSubconfed, math.MaxUint32) {
		rising := true
		var words []string
		for i, c := range l {
			rising = rising && (i == 0 || l[i-1] < c)
			words = append(words, comm.Text(c))
		}
		s := strings.Join(words, " ")
		if s == "" {
			s = "-"
		}
		if got := comm.Texts(l); got != s {
			t.Errorf("%08x: %q", l, got)
		}
		got, e := comm.ParseAll(s)
		if rising && (!slices.Equal(got, l) || e != api.OK) || !rising && (got != nil || e != api.ErrForm) {
			t.Errorf("%q: %08x %v", s, got, e)
		}
	}
}

func TestParseAllExamples(t *testing.T) {
	for s, want := range map[string][]uint32{
		"-": nil, "0:0": {0}, "no-export": {noExport}, "1:1 1:2 no-export": {0x00010001, 0x00010002, noExport}, "65535:65535": {math.MaxUint32},
		// By the number, not by the text: 2:1 comes before 10:1, and what has a name before 65535:65535.
		"2:1 10:1 no-export no-advertise no-export-subconfed 65535:65535": {0x00020001, 0x000a0001, noExport, noAdvertise, noSubconfed, math.MaxUint32},
	} {
		if l, e := comm.ParseAll(s); !slices.Equal(l, want) || e != api.OK {
			t.Errorf("%q: %08x %v", s, l, e)
		}
	}
}

// noSets are texts that no set has.
func noSets() []string {
	l := []string{
		"1:2 1:1", "1:1 1:1", "0:0 0:0", "no-export no-export", "65535:65535 65535:65535", "10:1 2:1", "1:10 1:2", "no-export 1:1", "no-advertise 0:1",
		"no-advertise no-export", "no-export-subconfed no-export", "65535:65535 no-export", "no-export 65535:65280", "65535:65284 no-export-subconfed",
		"1:1 1:2 1:1", "1:1 1:3 1:2", "1:2 1:1 1:3", "1:1 1:2 1:2",
		" ", "  ", "1:1  1:2", " 1:1", "1:1 ", " 1:1 1:2", "1:1 1:2 ", "1:1   1:2", "1:1\t1:2", "1:1\n1:2", "1:1,1:2", "1:1, 1:2", "1:1;1:2", "1:1\u00a01:2", "1:11:2",
		"- ", " -", "- -", "- 1:1", "1:1 -", "1:1 - 1:2", "-\n", "no-export ", " no-export", "no-export  no-advertise", "1 :1", "1: 1", "1 1", "1 : 1",
		"65535:65281 no-advertise", "no-export 65535:65282", "1:1 65535:65283",
		strings.Repeat(" ", 10000), strings.Repeat("1:1 ", 10000), strings.Repeat("- ", 10000),
	}
	for _, s := range noComms() {
		if s == "-" {
			continue
		}
		l = append(l, s, "0:0 "+s, s+" no-export-subconfed", "0:0 "+s+" 65535:65535")
	}
	return l
}

func TestParseAllRefuses(t *testing.T) {
	for _, s := range noSets() {
		if l, e := comm.ParseAll(s); l != nil || e != api.ErrForm {
			t.Errorf("%.40q: %d communities, %v", s, len(l), e)
		}
	}
}

// Long lists are written and read too: no limit is named. A fault at the end or within is found.
func TestLong(t *testing.T) {
	for _, size := range []int{api.MaxComms, api.MaxComms + 1, api.MaxSet, 3 * api.MaxItems} {
		var l []uint32
		var words []string
		for i := range size {
			c := uint32(i) * 131071
			l = append(l, c)
			words = append(words, write(int(c>>16), int(c&65535)))
		}
		s := strings.Join(words, " ")
		if comm.Texts(l) != s {
			t.Error(size, "texts")
		}
		if got, e := comm.ParseAll(s); !slices.Equal(got, l) || e != api.OK {
			t.Error(size, len(got), e)
		}
		for _, wrong := range []string{s + " ", s + " 0:0", s + " -", s + " " + words[size-1], " " + s, words[size-1] + " " + s} {
			if got, e := comm.ParseAll(wrong); got != nil || e != api.ErrForm {
				t.Error(size, len(got), e)
			}
		}
	}
}

// What is read has the very text it was read from: no second text for one community, nor for one set.
func FuzzParse(f *testing.F) {
	for _, s := range append(noSets(), "-", "1:1", "65000:100", "no-export", "no-advertise", "no-export-subconfed", "1:1 1:2 no-export", "0:0 65535:65535") {
		f.Add(s)
	}
	f.Fuzz(func(t *testing.T, s string) {
		if c, e := comm.Parse(s); e == api.OK && comm.Text(c) != s || e != api.OK && (e != api.ErrForm || c != 0) {
			t.Errorf("%q: %08x %v", s, c, e)
		}
		l, e := comm.ParseAll(s)
		if e == api.OK && comm.Texts(l) != s || e != api.OK && (e != api.ErrForm || l != nil) {
			t.Errorf("%q: %08x %v", s, l, e)
		}
		for i := 1; i < len(l); i++ {
			if l[i-1] >= l[i] {
				t.Errorf("%q: %08x is no set", s, l)
			}
		}
	})
}
