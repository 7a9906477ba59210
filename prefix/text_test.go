package prefix_test

import (
	"math"
	"strconv"
	"strings"
	"testing"

	"confluence/api"
	"confluence/prefix"
)

// P1.3

func TestAddr(t *testing.T) {
	for a, want := range map[uint32]string{
		0: "0.0.0.0", 1: "0.0.0.1", 0x0a000002: "10.0.0.2", 0x01020304: "1.2.3.4",
		0xc0a80163: "192.168.1.99", 0x64000a64: "100.0.10.100", math.MaxUint32: "255.255.255.255",
	} {
		if s := prefix.Addr(a); s != want {
			t.Error(a, s)
		}
		if x, e := prefix.ParseAddr(want); x != a || e != api.OK {
			t.Error(want, x, e)
		}
	}
}

func TestText(t *testing.T) {
	for want, p := range map[string]api.Prefix{
		"10.0.0.0/8": {Addr: 0x0a000000, Len: 8}, "0.0.0.0/0": {}, "0.0.0.0/32": {Len: 32},
		"128.0.0.0/1": {Addr: 1 << 31, Len: 1}, "192.168.1.0/24": {Addr: 0xc0a80100, Len: 24},
		"255.255.255.255/32": {Addr: math.MaxUint32, Len: 32},
	} {
		if s := prefix.Text(p); s != want {
			t.Error(p, s)
		}
		if x, e := prefix.Parse(want); x != p || e != api.OK {
			t.Error(want, x, e)
		}
	}
	for _, p := range bad {
		if s := prefix.Text(p); s != "" {
			t.Error(p, s)
		}
	}
}

func TestRoundTrip(t *testing.T) {
	for _, p := range all() {
		if x, e := prefix.Parse(prefix.Text(p)); x != p || e != api.OK {
			t.Error(p, x, e)
		}
	}
	for n := uint32(0); n < 256; n++ {
		for shift := 0; shift < 32; shift += 8 {
			a := n << shift
			if x, e := prefix.ParseAddr(prefix.Addr(a)); x != a || e != api.OK {
				t.Error(a, x, e)
			}
		}
	}
}

// noAddrs are texts that are no address, whatever stands behind them.
func noAddrs() []string {
	l := []string{
		"", " ", ".", "...", "....", "10", "10.0", "10.0.0", "10.0.0.", ".10.0.0", "10..0.0", "10.0.0.0.", "10.0.0.0.0", ".10.0.0.0",
		"10,0,0,0", "10.0.0,0", "256.0.0.0", "0.256.0.0", "0.0.256.0", "0.0.0.256", "999.0.0.0", "1000.0.0.0", "0.0.0.300",
		"4294967296.0.0.0", "18446744073709551616.0.0.0", "0.0.0.18446744073709551616",
		"010.0.0.0", "00.0.0.0", "10.00.0.0", "10.0.0.00", "10.0.0.01", "001.0.0.0", "0x0a.0.0.0",
		"+1.0.0.0", "-1.0.0.0", "-0.0.0.0", "1.0.0.-1", "1.+0.0.0", "1_0.0.0.0", "1e1.0.0.0",
		" 10.0.0.0", "10.0.0.0 ", "10. 0.0.0", "10.0.0.0\n", "\t10.0.0.0", "10.0.0.0\x00", "a.b.c.d", "10.0.0.a", "1a.0.0.0",
		"10.0.0.:", "/.0.0.0", "0.0.0./", "1/.0.0.0", "::1", "\u0661.0.0.0", "\uff11.0.0.0", "\xff.0.0.0", "10.0.0.0x",
		strings.Repeat("1.", 10000), strings.Repeat("0", 10000) + ".0.0.0", strings.Repeat(".", 10000),
	}
	return l
}

func TestParseAddrRefuses(t *testing.T) {
	for _, s := range append(noAddrs(), "10.0.0.0/8", "10.0.0.0/", "/8") {
		if a, e := prefix.ParseAddr(s); a != 0 || e != api.ErrForm {
			t.Errorf("%.40q: %d %v", s, a, e)
		}
	}
}

func TestParseRefuses(t *testing.T) {
	l := []string{
		"", "/", "/8", "8", "10.0.0.0", "10.0.0.0/", "10.0.0.0//8", "10.0.0.0/8/", "10.0.0.0/8/8", "/10.0.0.0/8",
		"10.0.0.0/33", "0.0.0.0/33", "0.0.0.0/99", "0.0.0.0/100", "0.0.0.0/256", "0.0.0.0/264", "0.0.0.0/4294967296", "0.0.0.0/18446744073709551616",
		"10.0.0.0/08", "0.0.0.0/00", "10.0.0.0/032", "10.0.0.0/-8", "0.0.0.0/-0", "0.0.0.0/-1", "10.0.0.0/+8", "10.0.0.0/8.0",
		"10.0.0.0/ 8", "10.0.0.0 /8", "10.0.0.0/8 ", " 10.0.0.0/8", "10.0.0.0/8\n", "10.0.0.0/a", "10.0.0.0/8a", "10.0.0.0/0x8", "10.0.0.0\\8",
		"10.0.0.0/\u0668", "10.0.0.0/255.0.0.0", "10.0.0.0/" + strings.Repeat("8", 10000),
		"10.0.0.1/8", "10.128.0.0/8", "0.0.0.1/0", "128.0.0.0/0", "0.0.0.1/31", "255.255.255.255/31", "255.255.255.255/0",
	}
	for _, s := range noAddrs() {
		l = append(l, s, s+"/8", s+"/0", s+"/32")
	}
	for _, s := range l {
		if p, e := prefix.Parse(s); p != (api.Prefix{}) || e != api.ErrForm {
			t.Errorf("%.40q: %v %v", s, p, e)
		}
	}
}

// Every bit behind the length counts, at every length.
func TestParseBits(t *testing.T) {
	for n := 0; n <= 32; n++ {
		for i := 0; i < 32; i++ {
			p := api.Prefix{Addr: 1 << (31 - i), Len: n}
			x, e := prefix.Parse(prefix.Addr(p.Addr) + "/" + strconv.Itoa(n))
			if i < n && (x != p || e != api.OK) || i >= n && (x != api.Prefix{} || e != api.ErrForm) {
				t.Error(p, x, e)
			}
		}
	}
}

// What is read has the very text it was read from: no second text for one address.
func FuzzParse(f *testing.F) {
	for _, s := range append(noAddrs(), "10.0.0.0/8", "0.0.0.0/0", "255.255.255.255/32", "10.0.0.2") {
		f.Add(s)
	}
	f.Fuzz(func(t *testing.T, s string) {
		if p, e := prefix.Parse(s); e == api.OK && prefix.Text(p) != s || e != api.OK && (e != api.ErrForm || p != api.Prefix{}) {
			t.Errorf("%q: %v %v", s, p, e)
		}
		if a, e := prefix.ParseAddr(s); e == api.OK && prefix.Addr(a) != s || e != api.OK && (e != api.ErrForm || a != 0) {
			t.Errorf("%q: %v %v", s, a, e)
		}
	})
}
