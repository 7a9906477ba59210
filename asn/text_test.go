package asn_test

import (
	"math"
	"slices"
	"strconv"
	"strings"
	"testing"

	"confluence/api"
	"confluence/asn"
)

// P2.2

func TestText(t *testing.T) {
	for _, x := range []struct {
		l    []uint32
		want string
	}{
		{nil, "-"}, {[]uint32{}, "-"},
		{[]uint32{0}, "0"}, {[]uint32{7}, "7"}, {[]uint32{10}, "10"}, {[]uint32{math.MaxUint32}, "4294967295"},
		{[]uint32{9, 1, math.MaxUint32}, "9 1 4294967295"}, {[]uint32{7, 7, 0}, "7 7 0"}, {[]uint32{0, 0}, "0 0"},
		{[]uint32{1 << 31, 1<<31 - 1, 65535, 65536, 100, 1000000000}, "2147483648 2147483647 65535 65536 100 1000000000"},
	} {
		if s := asn.Text(x.l); s != x.want {
			t.Error(x.l, s)
		}
		if l, e := asn.Parse(x.want); !slices.Equal(l, x.l) || e != api.OK {
			t.Error(x.want, l, e)
		}
	}
}

func TestRoundTrip(t *testing.T) {
	for _, l := range lists(4, 0, 1, 10, math.MaxUint32) {
		if got, e := asn.Parse(asn.Text(l)); !slices.Equal(got, l) || e != api.OK {
			t.Error(l, got, e)
		}
	}
	// Every count of digits, and both sides of every step from one count to the next.
	for n := uint64(1); n <= math.MaxUint32; n *= 10 {
		for _, n := range []uint64{n - 1, n, n + 1} {
			s := strconv.FormatUint(n, 10)
			if l, e := asn.Parse(s); len(l) != 1 || uint64(l[0]) != n || e != api.OK || asn.Text(l) != s {
				t.Error(s, l, e)
			}
		}
	}
}

// Lists of many numbers are read and written too: no limit is named.
func TestLongText(t *testing.T) {
	var l []uint32
	var words []string
	for i := range 3 * api.MaxItems {
		n := uint32(i) * 2654435761
		l = append(l, n)
		words = append(words, strconv.FormatUint(uint64(n), 10))
	}
	want := strings.Join(words, " ")
	if asn.Text(l) != want {
		t.Error("text")
	}
	if got, e := asn.Parse(want); !slices.Equal(got, l) || e != api.OK {
		t.Error(len(got), e)
	}
	if got, e := asn.Parse(want + " "); got != nil || e != api.ErrForm {
		t.Error(len(got), e)
	}
}

// noLists are texts that no list has.
func noLists() []string {
	l := []string{
		"", " ", "  ", "--", "- ", " -", "- -", "-\n", "- 1", "1 -", "\u2212", "\u2013", "_",
		"1  2", " 1", "1 ", " 1 2", "1 2 ", "1   2", "1\t2", "1\n2", "1\n", "\n1", "1\r", "1,2", "1, 2", "1;2", "1\x00", "1\u00a02", "1 \t2", "1\v2", "1\f2",
		"4294967296", "4294967297", "4294967305", "4300000000", "9999999999", "42949672950", "42949672960", "8589934592", "10000000000",
		"18446744073709551615", "18446744073709551616", "18446744073709551617", "340282366920938463463374607431768211456",
		"1 4294967296", "4294967296 1", "1 4294967296 2",
		"+1", "+0", "-1", "-0", "1 -1", "1 +1", "1-2", "--1", "+", "1 + 2",
		"1.0", "1.", ".1", "1e3", "0x1", "0x0", "0b1", "0o7", "1_000", "1_0", "_1", "1'0", "a", "1a", "a1", "1 a", "f", "NaN", "Inf", "nil", "none",
		"{1}", "{}", "[1]", "(1)", "\"1\"", "/", ":", "1/", "1:", "/1", ":1",
		"\u0661", "\uff11", "\u00b9", "1\u0662", "\xff", "1\xff", "\xb1",
		strings.Repeat("9", 10000), strings.Repeat("0", 10000), strings.Repeat(" ", 10000), strings.Repeat("1 ", 10000), strings.Repeat("-", 10000),
	}
	// Leading zeros, before small and great numbers and before nothing but zeros, wherever the number stands.
	for _, s := range []string{"01", "00", "000", "007", "0000000001", "010", "04294967295", "00000000004294967295", "0 00", "00 0", "1 01", "01 1", "1 01 2"} {
		l = append(l, s)
	}
	return l
}

func TestParseRefuses(t *testing.T) {
	for _, s := range noLists() {
		if l, e := asn.Parse(s); l != nil || e != api.ErrForm {
			t.Errorf("%.40q: %d numbers, %v", s, len(l), e)
		}
	}
	// One byte that is no digit, alone, ahead of, within and behind a number.
	for b := range 256 {
		if '0' <= b && b <= '9' {
			continue
		}
		c := string([]byte{byte(b)})
		for _, s := range []string{c, c + "12", "1" + c + "2", "12" + c, "3 " + c + "12", "3 1" + c + "2", "12" + c + " 3"} {
			if s == "-" || s == "1 2" || s == "3 1 2" {
				continue
			}
			if l, e := asn.Parse(s); l != nil || e != api.ErrForm {
				t.Errorf("%q: %v %v", s, l, e)
			}
		}
	}
}

// What is read has the very text it was read from: no second text for one list.
func FuzzParse(f *testing.F) {
	for _, s := range append(noLists(), "-", "7 7 0", "0", "4294967295", "9 1 4294967295") {
		f.Add(s)
	}
	f.Fuzz(func(t *testing.T, s string) {
		l, e := asn.Parse(s)
		if e == api.OK && asn.Text(l) != s || e != api.OK && (e != api.ErrForm || l != nil) {
			t.Errorf("%q: %v %v", s, l, e)
		}
	})
}
