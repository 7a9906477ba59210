package walk_test

import (
	"math"
	"slices"
	"testing"

	"confluence/api"
	"confluence/walk"
)

// ends are addresses at both ends, at powers of two and beside them, and some others.
func ends() []uint32 {
	l := []uint32{0x0a000000, 0x0a0000ff, 0x0affffff, 0x55555555, 0xaaaaaaaa, 0xc0a80001, math.MaxUint32 - 1, math.MaxUint32 - 2, math.MaxUint32}
	for i := range 32 {
		l = append(l, 1<<i-1, 1<<i, 1<<i+1, math.MaxUint32>>i<<i)
	}
	slices.Sort(l)
	return slices.Compact(l)
}

// ranges holds a range against what comes of halving all addresses.
func ranges(t *testing.T, first, last uint32) {
	t.Helper()
	var want []api.Prefix
	if first <= last {
		want = split(at(0, 0), uint64(first), uint64(last)+1)
	}
	same(t, "Range", walk.Range(first, last), want, first, last)
}

// every is the prefixes of some addresses, of every length.
func every() []api.Prefix {
	var l []api.Prefix
	for _, a := range []uint32{0, 1, 1 << 31, 0x0a000000, 0x55555555, 0xaaaaaaaa, 0x7fffffff, 0xc0a80180, math.MaxUint32} {
		for n := range 33 {
			l = append(l, at(uint32(uint64(a)>>(32-n)<<(32-n)), n))
		}
	}
	return l
}

// P15.2

func TestRange(t *testing.T) {
	for _, c := range []struct {
		first, last uint32
		want        []api.Prefix
	}{
		{0x0a000001, 0x0a000006, list("10.0.0.1/32", "10.0.0.2/31", "10.0.0.4/31", "10.0.0.6/32")},
		{0, math.MaxUint32, list("0.0.0.0/0")},
		{0, 0, list("0.0.0.0/32")},
		{math.MaxUint32, math.MaxUint32, list("255.255.255.255/32")},
		{0x0a000000, 0x0a000000, list("10.0.0.0/32")},
		{0x0a000001, 0x0a000001, list("10.0.0.1/32")},
		{0, 1, list("0.0.0.0/31")},
		{1, 2, list("0.0.0.1/32", "0.0.0.2/32")},
		{0x0a000000, 0x0affffff, list("10.0.0.0/8")},
		{0x0a000000, 0x0b000000, list("10.0.0.0/8", "11.0.0.0/32")},
		{0x09ffffff, 0x0affffff, list("9.255.255.255/32", "10.0.0.0/8")},
		{0x80000000, math.MaxUint32, list("128.0.0.0/1")},
		{0x7fffffff, math.MaxUint32, list("127.255.255.255/32", "128.0.0.0/1")},
		{0, 0x80000000, list("0.0.0.0/1", "128.0.0.0/32")},
		{0xfffffffe, math.MaxUint32, list("255.255.255.254/31")},
		{1, 0, nil},
		{math.MaxUint32, 0, nil},
		{math.MaxUint32, math.MaxUint32 - 1, nil},
		{0x0a000007, 0x0a000006, nil},
	} {
		same(t, "Range", walk.Range(c.first, c.last), c.want, c.first, c.last)
		ranges(t, c.first, c.last)
	}
}

// Each address from which a range may go, to each other one: also to lower ones.
func TestRangeEnds(t *testing.T) {
	for _, a := range ends() {
		for _, b := range ends() {
			ranges(t, a, b)
		}
	}
	for _, base := range []uint32{0, 0x0a000000 - 32, 1<<31 - 32, math.MaxUint32 - 63} {
		for i := range uint32(64) {
			for j := range uint32(64) {
				ranges(t, base+i, base+j)
			}
		}
	}
}

// The range of a prefix is this one; all but its first and its last address are two of each length between.
func TestRangePrefix(t *testing.T) {
	for _, p := range every() {
		a, b, ok := walk.Ends(p)
		if !ok {
			t.Fatal(p)
		}
		same(t, "Range", walk.Range(a, b), []api.Prefix{p}, p)
		if p.Len < 32 {
			l := walk.Range(a+1, b-1)
			if len(l) != 2*(31-p.Len) {
				t.Error(p, l)
			}
			ranges(t, a+1, b-1)
			ranges(t, a+1, b)
			ranges(t, a, b-1)
		}
	}
}

func TestEnds(t *testing.T) {
	for _, c := range []struct {
		s           string
		first, last uint32
	}{
		{"0.0.0.0/0", 0, math.MaxUint32},
		{"0.0.0.0/1", 0, 0x7fffffff},
		{"128.0.0.0/1", 0x80000000, math.MaxUint32},
		{"10.0.0.0/8", 0x0a000000, 0x0affffff},
		{"10.0.0.0/31", 0x0a000000, 0x0a000001},
		{"10.0.0.1/32", 0x0a000001, 0x0a000001},
		{"0.0.0.0/32", 0, 0},
		{"255.255.255.255/32", math.MaxUint32, math.MaxUint32},
	} {
		if a, b, ok := walk.Ends(one(c.s)); a != c.first || b != c.last || !ok {
			t.Error(c.s, a, b, ok)
		}
	}
	for _, p := range every() {
		if a, b, ok := walk.Ends(p); uint64(a) != first(p) || uint64(b) != last(p) || !ok {
			t.Error(p, a, b, ok)
		}
	}
	for _, p := range bad {
		if a, b, ok := walk.Ends(p); a != 0 || b != 0 || ok {
			t.Error(p, a, b, ok)
		}
	}
}

// below is all that p covers and that is at most depth longer, length by length, put in order at the end.
func below(p api.Prefix, depth int) []api.Prefix {
	var l []api.Prefix
	for n := p.Len; n <= min(32, p.Len+depth); n++ {
		for i := range uint64(1) << (n - p.Len) {
			l = append(l, at(uint32(first(p)+i<<(32-n)), n))
		}
	}
	slices.SortFunc(l, before)
	return l
}

func TestSteps(t *testing.T) {
	p := one("10.0.0.0/30")
	for depth, want := range [][]api.Prefix{
		list("10.0.0.0/30"),
		list("10.0.0.0/30", "10.0.0.0/31", "10.0.0.2/31"),
		list("10.0.0.0/30", "10.0.0.0/31", "10.0.0.0/32", "10.0.0.1/32", "10.0.0.2/31", "10.0.0.2/32", "10.0.0.3/32"),
	} {
		same(t, "Steps", walk.Steps(p, depth), want, depth)
	}
	same(t, "Steps", walk.Steps(one("10.0.0.0/31"), 5), list("10.0.0.0/31", "10.0.0.0/32", "10.0.0.1/32"))
	same(t, "Steps", walk.Steps(one("255.255.255.255/32"), 8), list("255.255.255.255/32"))
	for depth, many := range map[int]int{0: 1, 1: 3, 7: 255, 8: 511, 9: 511, -1: 1, math.MaxInt: 511, math.MinInt: 1, 32: 511, 64: 511} {
		for _, s := range []string{"0.0.0.0/0", "10.0.0.0/8", "10.0.0.0/24", "255.255.255.0/24"} {
			if l := walk.Steps(one(s), depth); len(l) != many || l[0] != one(s) {
				t.Error(s, depth, l)
			}
		}
	}
}

// Each depth, of each length: those near an address's own have no more than there are.
func TestStepsDepths(t *testing.T) {
	for _, p := range every() {
		for depth := range 9 {
			same(t, "Steps", walk.Steps(p, depth), below(p, depth), p, depth)
		}
		for _, depth := range []int{-1, -2, -8, -9, -256, math.MinInt, math.MinInt + 1} {
			same(t, "Steps", walk.Steps(p, depth), []api.Prefix{p}, p, depth)
		}
		for _, depth := range []int{9, 10, 16, 256, 264, math.MaxInt, math.MaxInt - 1} {
			same(t, "Steps", walk.Steps(p, depth), below(p, 8), p, depth)
		}
	}
	for _, p := range bad {
		for depth := -2; depth < 11; depth++ {
			same(t, "Steps", walk.Steps(p, depth), nil, p, depth)
		}
	}
}
