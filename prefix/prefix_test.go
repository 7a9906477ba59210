package prefix_test

import (
	"math"
	"slices"
	"testing"

	"confluence/api"
	"confluence/prefix"
)

// bad are prefixes that are not good: lengths outside 0 to 32, and bits behind the length.
var bad = []api.Prefix{
	{Len: -1}, {Len: 33}, {Len: math.MinInt}, {Len: math.MaxInt},
	{Addr: 0x0a000000, Len: -1}, {Addr: 0x0a000000, Len: 33},
	{Addr: 1, Len: 0}, {Addr: 1 << 31, Len: 0}, {Addr: 1, Len: 31},
	{Addr: 0x0a000001, Len: 8}, {Addr: 0x0a800000, Len: 8}, {Addr: math.MaxUint32, Len: 31},
}

// addrs are addresses at both ends, and some that begin alike.
var addrs = []uint32{
	0, 1, 2, 0x7fffffff, 1 << 31, 0x80000001, 0x0a000000, 0x0a000001, 0x0a0000ff, 0x0a010000,
	0x0a800000, 0x0affffff, 0x0b000000, 0xc0a80001, 0xfffffffe, math.MaxUint32,
}

// all is every prefix that an address of addrs has, each one once.
func all() []api.Prefix {
	var l []api.Prefix
	for _, a := range addrs {
		for n := 0; n <= 32; n++ {
			if p := (api.Prefix{Addr: a & mask(n), Len: n}); !slices.Contains(l, p) {
				l = append(l, p)
			}
		}
	}
	return l
}

// mask sets the bits one by one, so that it owes nothing to what it checks.
func mask(n int) uint32 {
	m := uint32(0)
	for i := 0; i < n; i++ {
		m |= 1 << (31 - i)
	}
	return m
}

// first and last are the ends of a good prefix, wider than an address so that nothing wraps.
func first(p api.Prefix) uint64 { return uint64(p.Addr) }
func last(p api.Prefix) uint64  { return uint64(p.Addr) + 1<<(32-p.Len) - 1 }

func holds(p, q api.Prefix) bool { return first(p) <= first(q) && last(q) <= last(p) }

// P1.1

func TestMask(t *testing.T) {
	for n := 0; n <= 32; n++ {
		if m := prefix.Mask(n); m != mask(n) {
			t.Errorf("Mask(%d) = %08x", n, m)
		}
	}
	for n, want := range map[int]uint32{
		8: 0xff000000, 9: 0xff800000, 31: 0xfffffffe,
		-1: 0, -32: 0, math.MinInt: 0,
		33: math.MaxUint32, 64: math.MaxUint32, math.MaxInt: math.MaxUint32,
	} {
		if m := prefix.Mask(n); m != want {
			t.Errorf("Mask(%d) = %08x", n, m)
		}
	}
}

func TestGood(t *testing.T) {
	for _, p := range all() {
		if !prefix.Good(p) {
			t.Error(p)
		}
	}
	for _, p := range bad {
		if prefix.Good(p) {
			t.Error(p)
		}
	}
	for n := 0; n < 32; n++ {
		for i := 0; i < 32; i++ {
			if p := (api.Prefix{Addr: 1 << (31 - i), Len: n}); prefix.Good(p) != (i < n) {
				t.Error(p)
			}
		}
	}
}

func TestMake(t *testing.T) {
	for _, a := range addrs {
		for n := 0; n <= 32; n++ {
			p, e := prefix.Make(a, n)
			if want := (api.Prefix{Addr: a & mask(n), Len: n}); p != want || e != api.OK {
				t.Error(a, n, p, e)
			}
		}
		for _, n := range []int{-1, 33, 64, math.MinInt, math.MaxInt} {
			if p, e := prefix.Make(a, n); p != (api.Prefix{}) || e != api.ErrArg {
				t.Error(a, n, p, e)
			}
		}
	}
}

func TestBit(t *testing.T) {
	for i := 0; i < 32; i++ {
		one := uint32(1) << (31 - i)
		for j := 0; j < 32; j++ {
			b := prefix.Bit(one, j)
			if (b == 1) != (i == j) || b < 0 || b > 1 {
				t.Error(i, j, b)
			}
		}
		if prefix.Bit(math.MaxUint32, i) != 1 || prefix.Bit(0, i) != 0 || prefix.Bit(^one, i) != 0 {
			t.Error(i)
		}
	}
	for _, i := range []int{-1, 32, 33, 63, 64, math.MinInt, math.MaxInt} {
		if prefix.Bit(math.MaxUint32, i) != 0 {
			t.Error(i)
		}
	}
}

// P1.2

func TestHas(t *testing.T) {
	for _, p := range all() {
		for _, a := range addrs {
			if prefix.Has(p, a) != (first(p) <= uint64(a) && uint64(a) <= last(p)) {
				t.Error(p, a)
			}
		}
		if !prefix.Has(p, uint32(first(p))) || !prefix.Has(p, uint32(last(p))) {
			t.Error(p, "ends")
		}
		if p.Len > 0 && (prefix.Has(p, uint32(first(p)-1)) || prefix.Has(p, uint32(last(p)+1))) {
			t.Error(p, "beyond its ends")
		}
	}
}

func TestCoversWithin(t *testing.T) {
	l := all()
	for _, p := range l {
		if !prefix.Covers(p, p) || prefix.Within(p, p) {
			t.Error(p, "itself")
		}
		for _, q := range l {
			if prefix.Covers(p, q) != holds(p, q) {
				t.Error("covers", p, q)
			}
			if prefix.Within(p, q) != (p != q && holds(q, p)) {
				t.Error("within", p, q)
			}
		}
	}
}

func TestCmp(t *testing.T) {
	// By address first, and by length among the same addresses: a longer one may come before a shorter one.
	l := []api.Prefix{
		{Len: 0}, {Len: 1}, {Len: 32}, {Addr: 1, Len: 32}, {Addr: 0x0a000000, Len: 8}, {Addr: 0x0a000000, Len: 9},
		{Addr: 0x0a000000, Len: 32}, {Addr: 0x0a010000, Len: 16}, {Addr: 0x0b000000, Len: 8},
		{Addr: 1 << 31, Len: 1}, {Addr: 1 << 31, Len: 2}, {Addr: math.MaxUint32, Len: 32},
	}
	for i, p := range l {
		for j, q := range l {
			want := 0
			if i < j {
				want = -1
			}
			if i > j {
				want = 1
			}
			if c := prefix.Cmp(p, q); c != want {
				t.Error(p, q, c)
			}
		}
	}
}

func TestCommon(t *testing.T) {
	l := all()
	for _, p := range l {
		if prefix.Common(p, p) != p {
			t.Error(p, "itself")
		}
		for _, q := range l {
			n := min(p.Len, q.Len)
			for p.Addr&mask(n) != q.Addr&mask(n) {
				n--
			}
			if c := prefix.Common(p, q); c != (api.Prefix{Addr: p.Addr & mask(n), Len: n}) {
				t.Error(p, q, c)
			}
		}
	}
}

func TestHalves(t *testing.T) {
	for _, p := range all() {
		low, high, ok := prefix.Halves(p)
		if p.Len == 32 {
			if ok || low != (api.Prefix{}) || high != (api.Prefix{}) {
				t.Error(p, low, high, ok)
			}
			continue
		}
		if !ok || !prefix.Good(low) || !prefix.Good(high) || low.Len != p.Len+1 || high.Len != p.Len+1 {
			t.Error(p, low, high, ok)
		}
		if first(low) != first(p) || last(low)+1 != first(high) || last(high) != last(p) {
			t.Error(p, low, high, "ends")
		}
	}
}

func TestNotGood(t *testing.T) {
	none := api.Prefix{}
	for _, b := range bad {
		for _, a := range append([]uint32{b.Addr}, addrs...) {
			if prefix.Has(b, a) {
				t.Error("has", b, a)
			}
		}
		if low, high, ok := prefix.Halves(b); ok || low != none || high != none {
			t.Error("halves", b, low, high, ok)
		}
		for _, p := range append(all(), bad...) {
			if prefix.Covers(b, p) || prefix.Covers(p, b) || prefix.Within(b, p) || prefix.Within(p, b) {
				t.Error("covers", b, p)
			}
			if prefix.Cmp(b, p) != 0 || prefix.Cmp(p, b) != 0 {
				t.Error("cmp", b, p)
			}
			if prefix.Common(b, p) != none || prefix.Common(p, b) != none {
				t.Error("common", b, p)
			}
		}
	}
}

// P1.4

func TestNested(t *testing.T) {
	l := all()
	for _, p := range l {
		for _, q := range l {
			apart := last(p) < first(q) || last(q) < first(p)
			if (prefix.Covers(p, q) || prefix.Covers(q, p)) == apart {
				t.Error(p, q, "neither nested nor apart")
			}
			if prefix.Covers(p, q) && p != q && (prefix.Cmp(p, q) != -1 || prefix.Cmp(q, p) != 1) {
				t.Error(p, q, "order")
			}
		}
	}
}
