package walk_test

import (
	"math"
	"slices"
	"testing"

	"confluence/api"
	"confluence/prefix"
	"confluence/walk"
)

// everything is how many addresses there are.
const everything = 1 << 32

// bad are prefixes that are not good: lengths outside 0 to 32, and bits behind the length.
var bad = []api.Prefix{
	{Len: -1}, {Len: -8}, {Len: 33}, {Len: 64}, {Len: math.MinInt}, {Len: math.MaxInt},
	{Addr: 0x0a000000, Len: -1}, {Addr: 0x0a000000, Len: 33}, {Addr: math.MaxUint32, Len: 33}, {Addr: math.MaxUint32, Len: -1},
	{Addr: 1, Len: 0}, {Addr: 1 << 31, Len: 0}, {Addr: 1, Len: 31}, {Addr: 0x0a000001, Len: 8},
	{Addr: 0x0a800000, Len: 8}, {Addr: math.MaxUint32, Len: 31}, {Addr: math.MaxUint32, Len: 0},
}

func at(addr uint32, n int) api.Prefix { return api.Prefix{Addr: addr, Len: n} }

// list is the prefixes of some texts.
func list(texts ...string) []api.Prefix {
	var l []api.Prefix
	for _, s := range texts {
		p, e := prefix.Parse(s)
		if e != api.OK {
			panic(s)
		}
		l = append(l, p)
	}
	return l
}

// one is the prefix of a text.
func one(s string) api.Prefix { return list(s)[0] }

// first and last are the ends of a good prefix, wider than an address so that nothing wraps.
func first(p api.Prefix) uint64 { return uint64(p.Addr) }
func last(p api.Prefix) uint64  { return uint64(p.Addr) + 1<<(32-p.Len) - 1 }

func isGood(p api.Prefix) bool {
	return p.Len >= 0 && p.Len <= 32 && uint64(p.Addr)%(1<<(32-p.Len)) == 0
}

// holds tells whether all addresses of q are among those of p; both are good.
func holds(p, q api.Prefix) bool { return first(p) <= first(q) && last(q) <= last(p) }

// has tells whether a good prefix of l has an address.
func has(l []api.Prefix, addr uint64) bool {
	return slices.ContainsFunc(l, func(p api.Prefix) bool { return isGood(p) && first(p) <= addr && addr <= last(p) })
}

// before orders two prefixes by the address, then by the length.
func before(p, q api.Prefix) int {
	switch {
	case p.Addr < q.Addr || p.Addr == q.Addr && p.Len < q.Len:
		return -1
	case p == q:
		return 0
	}
	return 1
}

// split is the fewest prefixes at p and below it for the addresses from a on, without b: the whole one if all of its addresses are asked for, or what its halves come to.
func split(p api.Prefix, a, b uint64) []api.Prefix {
	switch {
	case b <= first(p) || last(p) < a:
		return nil
	case a <= first(p) && last(p) < b:
		return []api.Prefix{p}
	}
	low, high := at(p.Addr, p.Len+1), at(p.Addr+1<<(31-p.Len), p.Len+1)
	return append(split(low, a, b), split(high, a, b)...)
}

// reckon is the fewest prefixes for the addresses that are to be kept, and how many addresses these are; keep is told which of the lists have them. It goes from bound to bound of all prefixes, whatever their order.
func reckon(keep func(in []bool) bool, lists ...[]api.Prefix) (fewest []api.Prefix, many int) {
	bounds := []uint64{0, everything}
	for _, p := range slices.Concat(lists...) {
		if isGood(p) {
			bounds = append(bounds, first(p), last(p)+1)
		}
	}
	slices.Sort(bounds)
	bounds = slices.Compact(bounds)
	var runs [][2]uint64
	for i, b := range bounds[1:] {
		a := bounds[i]
		var in []bool
		for _, l := range lists {
			in = append(in, has(l, a))
		}
		if !keep(in) {
			continue
		}
		many += int(b - a)
		if n := len(runs); n > 0 && runs[n-1][1] == a {
			runs[n-1][1] = b
			continue
		}
		runs = append(runs, [2]uint64{a, b})
	}
	for _, r := range runs {
		fewest = append(fewest, split(at(0, 0), r[0], r[1])...)
	}
	return fewest, many
}

func either(in []bool) bool  { return slices.Contains(in, true) }
func both(in []bool) bool    { return in[0] && in[1] }
func without(in []bool) bool { return in[0] && !in[1] }

// tops is the good prefixes that no other one covers, each held against each.
func tops(l []api.Prefix) []api.Prefix {
	var out []api.Prefix
	for _, p := range l {
		covered := func(q api.Prefix) bool { return isGood(q) && q != p && holds(q, p) }
		if isGood(p) && !slices.Contains(out, p) && !slices.ContainsFunc(l, covered) {
			out = append(out, p)
		}
	}
	slices.SortFunc(out, before)
	return out
}

// same reports where a list is not as it should be.
func same(t *testing.T, name string, got, want []api.Prefix, of ...any) {
	t.Helper()
	if !slices.Equal(got, want) {
		t.Errorf("%s of %v: %v, not %v", name, of, got, want)
	}
}

// lists holds all that is asked of one list against the reckoning.
func lists(t *testing.T, l []api.Prefix) {
	t.Helper()
	fewest, many := reckon(either, l)
	same(t, "Tops", walk.Tops(l...), tops(l), l)
	same(t, "Merge", walk.Merge(l...), fewest, l)
	same(t, "Merge of the merged", walk.Merge(fewest...), fewest, l)
	if n := walk.Span(l...); n != many {
		t.Errorf("Span of %v: %d, not %d", l, n, many)
	}
}

// pairs holds all that is asked of two lists against the reckoning.
func pairs(t *testing.T, a, b []api.Prefix) {
	t.Helper()
	fewest, _ := reckon(both, a, b)
	same(t, "Both", walk.Both(a, b), fewest, a, b)
}

// cuts holds all that is asked of a prefix and a list against the reckoning.
func cuts(t *testing.T, p api.Prefix, l []api.Prefix) {
	t.Helper()
	fewest, _ := reckon(without, []api.Prefix{p}, l)
	same(t, "Minus", walk.Minus(p, l...), fewest, p, l)
}

// P15.1

func TestTops(t *testing.T) {
	for _, c := range []struct{ of, want []api.Prefix }{
		{list("10.0.0.0/9", "10.1.0.0/16", "10.128.0.0/10", "10.128.0.0/10"), list("10.0.0.0/9", "10.128.0.0/10")},
		{nil, nil},
		{[]api.Prefix{}, nil},
		{list("10.0.0.0/8"), list("10.0.0.0/8")},
		{list("10.0.0.0/8", "10.0.0.0/8", "10.0.0.0/8"), list("10.0.0.0/8")},
		{list("0.0.0.0/0"), list("0.0.0.0/0")},
		{list("255.255.255.255/32", "0.0.0.0/32"), list("0.0.0.0/32", "255.255.255.255/32")},
		{list("255.255.255.255/32", "0.0.0.0/0", "0.0.0.0/32"), list("0.0.0.0/0")},
		// Both halves stay two, for nothing else covers them.
		{list("10.128.0.0/9", "10.0.0.0/9"), list("10.0.0.0/9", "10.128.0.0/9")},
		{list("10.128.0.0/9", "10.0.0.0/9", "10.0.0.0/8"), list("10.0.0.0/8")},
		// The same address with several lengths, the longest one first.
		{list("10.0.0.0/32", "10.0.0.0/24", "10.0.0.0/16", "10.1.0.0/16", "10.1.0.0/24"), list("10.0.0.0/16", "10.1.0.0/16")},
		// One within one within one, and others between them in order.
		{list("10.1.1.0/24", "10.0.0.0/8", "10.1.0.0/16", "10.2.0.0/16", "11.0.0.0/16", "11.0.1.0/24"), list("10.0.0.0/8", "11.0.0.0/16")},
	} {
		same(t, "Tops", walk.Tops(c.of...), c.want, c.of)
		lists(t, c.of)
	}
	same(t, "Tops", walk.Tops(), nil)
}

func TestMerge(t *testing.T) {
	for _, c := range []struct{ of, want []api.Prefix }{
		{list("10.0.0.0/9", "10.128.0.0/9"), list("10.0.0.0/8")},
		{nil, nil},
		{[]api.Prefix{}, nil},
		{list("10.0.0.0/8"), list("10.0.0.0/8")},
		{list("10.0.0.0/8", "10.0.0.0/8"), list("10.0.0.0/8")},
		{list("128.0.0.0/1", "0.0.0.0/1"), list("0.0.0.0/0")},
		{list("255.255.255.255/32", "255.255.255.254/32"), list("255.255.255.254/31")},
		{list("0.0.0.1/32", "0.0.0.0/32"), list("0.0.0.0/31")},
		// Next to each other, but not the halves of one prefix.
		{list("10.128.0.0/9", "11.0.0.0/9"), list("10.128.0.0/9", "11.0.0.0/9")},
		{list("10.0.0.1/32", "10.0.0.2/32"), list("10.0.0.1/32", "10.0.0.2/32")},
		// Next to each other, with other lengths.
		{list("10.0.0.0/9", "10.128.0.0/10"), list("10.0.0.0/9", "10.128.0.0/10")},
		{list("10.64.0.0/10", "10.128.0.0/9"), list("10.64.0.0/10", "10.128.0.0/9")},
		// The last one goes up several lengths, also as the lower half of what comes behind.
		{list("10.0.0.0/9", "10.128.0.0/10", "10.192.0.0/11", "10.224.0.0/12", "10.240.0.0/12"), list("10.0.0.0/8")},
		{list("10.0.0.0/12", "10.16.0.0/12", "10.32.0.0/11", "10.64.0.0/10", "10.128.0.0/9"), list("10.0.0.0/8")},
		{list("10.192.0.0/10", "10.0.0.0/10", "10.128.0.0/10", "10.64.0.0/10"), list("10.0.0.0/8")},
		{list("10.64.0.0/10", "10.192.0.0/10", "10.128.0.0/10"), list("10.64.0.0/10", "10.128.0.0/9")},
		// What lies within another one is no half of its own.
		{list("10.0.0.0/8", "10.0.0.0/9", "11.0.0.0/9"), list("10.0.0.0/8", "11.0.0.0/9")},
		{list("10.0.0.0/8", "10.128.0.0/9", "11.0.0.0/8", "11.0.0.0/9"), list("10.0.0.0/7")},
	} {
		same(t, "Merge", walk.Merge(c.of...), c.want, c.of)
		lists(t, c.of)
	}
	same(t, "Merge", walk.Merge(), nil)
}

// From any address on, its prefix and the ones beside it of each length below come to all there is.
func TestMergeUp(t *testing.T) {
	for _, a := range []uint32{0, 1, 0x0a000000, 0x55555555, 0xaaaaaaaa, 0x7fffffff, 1 << 31, math.MaxUint32} {
		l := []api.Prefix{at(a, 32)}
		for n := 32; n > 0; n-- {
			half := uint32(1) << (32 - n)
			l = append(l, at((a^half)&^(half-1), n))
			top := at(a&^(half-1)&^half, n-1)
			same(t, "Merge", walk.Merge(l...), []api.Prefix{top}, l)
			back := slices.Clone(l)
			slices.Reverse(back)
			same(t, "Merge", walk.Merge(back...), []api.Prefix{top}, back)
			if s := walk.Span(l...); s != 1<<(33-n) {
				t.Error("Span", l, s)
			}
			// Without the first address nothing can be merged: all of the others stay.
			rest := slices.Clone(l[1:])
			slices.SortFunc(rest, before)
			same(t, "Merge", walk.Merge(l[1:]...), rest, l[1:])
			same(t, "Minus", walk.Minus(top, l[0]), rest, top, l[0])
			same(t, "Minus", walk.Minus(top, l[1:]...), l[:1], top, l[1:])
		}
	}
}

func TestSpan(t *testing.T) {
	for _, c := range []struct {
		of   []api.Prefix
		want int
	}{
		{list("10.0.0.0/24", "10.0.0.0/25", "10.0.2.0/24"), 512},
		{nil, 0},
		{[]api.Prefix{}, 0},
		{list("0.0.0.0/0"), everything},
		{list("0.0.0.0/0", "10.0.0.0/8", "255.255.255.255/32", "0.0.0.0/0", "128.0.0.0/1"), everything},
		{list("0.0.0.0/1", "128.0.0.0/1"), everything},
		{list("0.0.0.0/1", "128.0.0.0/2"), everything / 4 * 3},
		{list("10.0.0.0/32"), 1},
		{list("10.0.0.0/32", "10.0.0.0/32"), 1},
		{list("0.0.0.0/32", "255.255.255.255/32"), 2},
		{list("10.0.0.0/31", "10.0.0.1/32", "10.0.0.2/32"), 3},
	} {
		if n := walk.Span(c.of...); n != c.want {
			t.Error(c.of, n, c.want)
		}
		lists(t, c.of)
	}
	if n := walk.Span(); n != 0 {
		t.Error(n)
	}
	for n := range 33 {
		p := at(0, n)
		if s := walk.Span(p, p, at(0, 32), at(0, 31)); s != max(2, everything>>n) {
			t.Error(n, s)
		}
	}
}

func TestMinus(t *testing.T) {
	p := one("10.0.0.0/8")
	for _, c := range []struct{ of, want []api.Prefix }{
		{nil, list("10.0.0.0/8")},
		{[]api.Prefix{}, list("10.0.0.0/8")},
		{list("10.0.0.0/8"), nil},
		{list("10.0.0.0/8", "10.0.0.0/8"), nil},
		{list("10.0.0.0/7"), nil},
		{list("0.0.0.0/0"), nil},
		{list("10.0.0.0/9"), list("10.128.0.0/9")},
		{list("10.128.0.0/9"), list("10.0.0.0/9")},
		{list("10.128.0.0/9", "10.0.0.0/9"), nil},
		{list("10.64.0.0/10"), list("10.0.0.0/10", "10.128.0.0/9")},
		{list("10.64.0.0/10", "10.128.0.0/10"), list("10.0.0.0/10", "10.192.0.0/10")},
		{list("10.0.0.0/10", "10.192.0.0/10"), list("10.64.0.0/10", "10.128.0.0/10")},
		{list("10.0.0.0/10", "10.64.0.0/10", "10.192.0.0/10", "10.128.0.0/11", "10.160.0.0/11"), nil},
		{list("11.0.0.0/8", "9.0.0.0/8", "0.0.0.0/32", "255.255.255.255/32"), list("10.0.0.0/8")},
		{list("9.255.255.255/32", "11.0.0.0/32"), list("10.0.0.0/8")},
		{list("9.0.0.0/8", "10.0.0.0/9", "11.0.0.0/8"), list("10.128.0.0/9")},
		{list("10.0.0.0/9", "10.0.0.0/16", "10.127.0.0/16"), list("10.128.0.0/9")},
	} {
		same(t, "Minus", walk.Minus(p, c.of...), c.want, p, c.of)
		cuts(t, p, c.of)
	}
	same(t, "Minus", walk.Minus(p), []api.Prefix{p})
	for _, s := range []string{"0.0.0.0/0", "0.0.0.0/32", "255.255.255.255/32", "10.0.0.0/31", "128.0.0.0/1"} {
		p := one(s)
		same(t, "Minus", walk.Minus(p), []api.Prefix{p}, p)
		same(t, "Minus", walk.Minus(p, p), nil, p)
		same(t, "Minus", walk.Minus(p, one("0.0.0.0/0")), nil, p)
		same(t, "Minus", walk.Minus(p, one("0.0.0.0/1"), one("128.0.0.0/1")), nil, p)
	}
}

func TestBoth(t *testing.T) {
	for _, c := range []struct{ a, b, want []api.Prefix }{
		{nil, nil, nil},
		{list("10.0.0.0/8"), nil, nil},
		{list("10.0.0.0/8"), []api.Prefix{}, nil},
		{list("10.0.0.0/8"), list("11.0.0.0/8"), nil},
		{list("10.0.0.0/8", "12.0.0.0/8"), list("9.0.0.0/8", "11.0.0.0/8", "13.0.0.0/8"), nil},
		{list("10.0.0.0/8"), list("10.0.0.0/8"), list("10.0.0.0/8")},
		{list("10.0.0.0/8", "12.0.0.0/8"), list("12.0.0.0/8", "10.0.0.0/8", "10.0.0.0/8"), list("10.0.0.0/8", "12.0.0.0/8")},
		{list("10.0.0.0/8"), list("10.1.0.0/16"), list("10.1.0.0/16")},
		{list("10.0.0.0/8"), list("10.1.0.0/16", "10.3.0.0/16", "10.3.3.0/24", "11.0.0.0/16", "9.0.0.0/16"), list("10.1.0.0/16", "10.3.0.0/16")},
		{list("0.0.0.0/0"), list("10.0.0.0/8", "255.255.255.255/32"), list("10.0.0.0/8", "255.255.255.255/32")},
		{list("0.0.0.0/0"), list("0.0.0.0/1", "128.0.0.0/1"), list("0.0.0.0/0")},
		// Each of the lists has something of the other one's within its own.
		{list("10.0.0.0/8", "11.1.0.0/16"), list("11.0.0.0/8", "10.1.0.0/16"), list("10.1.0.0/16", "11.1.0.0/16")},
		// Halves of the one list make a prefix that the other one has, or a part of it.
		{list("10.0.0.0/9", "10.128.0.0/9"), list("10.0.0.0/8"), list("10.0.0.0/8")},
		{list("10.0.0.0/9", "10.128.0.0/9"), list("10.0.0.0/7"), list("10.0.0.0/8")},
		{list("10.0.0.0/9", "10.128.0.0/9"), list("10.64.0.0/10", "10.128.0.0/10"), list("10.64.0.0/10", "10.128.0.0/10")},
		{list("10.0.0.0/9", "10.128.0.0/10", "10.192.0.0/10"), list("10.0.0.0/10", "10.64.0.0/10", "10.128.0.0/9"), list("10.0.0.0/8")},
		{list("0.0.0.0/32", "255.255.255.255/32"), list("255.255.255.255/32", "0.0.0.0/32"), list("0.0.0.0/32", "255.255.255.255/32")},
	} {
		same(t, "Both", walk.Both(c.a, c.b), c.want, c.a, c.b)
		same(t, "Both", walk.Both(c.b, c.a), c.want, c.b, c.a)
		pairs(t, c.a, c.b)
	}
}
