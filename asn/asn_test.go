package asn_test

import (
	"math"
	"slices"
	"testing"

	"confluence/api"
	"confluence/asn"
)

// pool is numbers at both ends and in between, in order.
var pool = []uint32{0, 1, 5, 6, 9, math.MaxUint32 - 1, math.MaxUint32}

// strangers are numbers that pool does not have: ahead of, between and behind those that a set of pool may have.
var strangers = []uint32{2, 7, 65536, 1 << 31, math.MaxUint32 - 2}

// subset is the numbers of pool that the bits of m tell.
func subset(m int) []uint32 {
	var l []uint32
	for i, n := range pool {
		if m>>i&1 == 1 {
			l = append(l, n)
		}
	}
	return l
}

// lists is every list of at most most numbers of from.
func lists(most int, from ...uint32) [][]uint32 {
	all := [][]uint32{nil}
	for begin := 0; most > 0; most-- {
		end := len(all)
		for _, l := range all[begin:end] {
			for _, n := range from {
				all = append(all, append(slices.Clone(l), n))
			}
		}
		begin = end
	}
	return all
}

// among goes through a list number by number, so that it owes nothing to what it checks.
func among(l []uint32, n uint32) bool {
	for _, x := range l {
		if x == n {
			return true
		}
	}
	return false
}

func rising(l []uint32) bool {
	for i := range l {
		for j := range i {
			if l[j] >= l[i] {
				return false
			}
		}
	}
	return true
}

// isSetOf tells whether got is the set of the numbers of l.
func isSetOf(got, l []uint32) bool {
	if !rising(got) {
		return false
	}
	for _, n := range l {
		if !among(got, n) {
			return false
		}
	}
	for _, n := range got {
		if !among(l, n) {
			return false
		}
	}
	return true
}

// P2.1

func TestSet(t *testing.T) {
	if l := asn.Set(5, 1, 9, 5); !slices.Equal(l, []uint32{1, 5, 9}) {
		t.Error(l)
	}
	if l := asn.Set(); len(l) != 0 {
		t.Error(l)
	}
	for _, l := range lists(5, 0, 1, 5, math.MaxUint32) {
		if got := asn.Set(l...); !isSetOf(got, l) {
			t.Error(l, got)
		}
	}
	for _, l := range lists(3, append(pool, strangers...)...) {
		if got := asn.Set(l...); !isSetOf(got, l) {
			t.Error(l, got)
		}
	}
}

// Long lists: falling, all alike, and scattered with each number many times.
func TestSetLong(t *testing.T) {
	for _, size := range []int{api.MaxSet, api.MaxSet + 1, api.MaxItems} {
		var falling, alike, scattered []uint32
		for i := range size {
			falling = append(falling, math.MaxUint32-uint32(i))
			alike = append(alike, 7)
			scattered = append(scattered, uint32(i)*2654435761%97)
		}
		got := asn.Set(falling...)
		if len(got) != size || !asn.Is(got) || got[0] != math.MaxUint32-uint32(size-1) || got[size-1] != math.MaxUint32 {
			t.Error(size, len(got))
		}
		if got := asn.Set(alike...); !slices.Equal(got, []uint32{7}) {
			t.Error(size, got)
		}
		if got := asn.Set(scattered...); len(got) != 97 || !isSetOf(got, scattered) {
			t.Error(size, got)
		}
	}
}

func TestIs(t *testing.T) {
	for _, x := range []struct {
		l    []uint32
		want bool
	}{
		{nil, true}, {[]uint32{}, true}, {[]uint32{0}, true}, {[]uint32{math.MaxUint32}, true},
		{[]uint32{1, 1}, false}, {[]uint32{0, 0}, false}, {[]uint32{math.MaxUint32, math.MaxUint32}, false},
		{[]uint32{0, math.MaxUint32}, true}, {[]uint32{math.MaxUint32, 0}, false},
		{[]uint32{1, 5, 9}, true}, {[]uint32{1, 9, 5}, false}, {[]uint32{5, 1, 9}, false}, {[]uint32{1, 5, 5}, false}, {[]uint32{1, 1, 5}, false},
		{[]uint32{1, 2, 3, 1}, false},
	} {
		if asn.Is(x.l) != x.want {
			t.Error(x.l)
		}
	}
	for _, l := range lists(5, 0, 1, 5, math.MaxUint32) {
		if asn.Is(l) != rising(l) {
			t.Error(l)
		}
	}
	for m := range 1 << len(pool) {
		if !asn.Is(subset(m)) {
			t.Error(m)
		}
	}
}

func TestHas(t *testing.T) {
	for m := range 1 << len(pool) {
		l := subset(m)
		for i, n := range pool {
			if asn.Has(l, n) != (m>>i&1 == 1) {
				t.Error(l, n)
			}
		}
		for _, n := range strangers {
			if asn.Has(l, n) {
				t.Error(l, n)
			}
		}
	}
	if asn.Has(nil, 0) || asn.Has([]uint32{}, 0) || asn.Has(nil, math.MaxUint32) {
		t.Error("of none")
	}
}

func TestWithWithout(t *testing.T) {
	l := []uint32{1, 5, 9}
	if got := asn.With(l, 6); !slices.Equal(got, []uint32{1, 5, 6, 9}) {
		t.Error(got)
	}
	if got := asn.Without(l, 5); !slices.Equal(got, []uint32{1, 9}) {
		t.Error(got)
	}
	for m := range 1 << len(pool) {
		l := subset(m)
		for i, n := range pool {
			if got := asn.With(l, n); !slices.Equal(got, subset(m|1<<i)) {
				t.Error(l, "with", n, got)
			}
			if got := asn.Without(l, n); !slices.Equal(got, subset(m&^(1<<i))) {
				t.Error(l, "without", n, got)
			}
		}
		for _, n := range strangers {
			if got := asn.With(l, n); !isSetOf(got, append([]uint32{n}, l...)) {
				t.Error(l, "with", n, got)
			}
			if got := asn.Without(l, n); !slices.Equal(got, l) {
				t.Error(l, "without", n, got)
			}
		}
	}
}

// Every pair of sets of pool, and with it sets that lie apart, meet, hold one another or are equal; P2.3 too.
func TestPairs(t *testing.T) {
	for x := range 1 << len(pool) {
		for y := range 1 << len(pool) {
			a, b := subset(x), subset(y)
			union, minus, both := asn.Union(a, b), asn.Minus(a, b), asn.Both(a, b)
			if !slices.Equal(union, subset(x|y)) {
				t.Error("union", a, b, union)
			}
			if !slices.Equal(minus, subset(x&^y)) {
				t.Error("minus", a, b, minus)
			}
			if !slices.Equal(both, subset(x&y)) {
				t.Error("both", a, b, both)
			}
			if asn.Within(a, b) != (x&^y == 0) {
				t.Error("within", a, b)
			}
			if again := asn.Union(minus, both); !slices.Equal(again, a) {
				t.Error("minus and both", a, b, again)
			}
		}
	}
}

func TestPairExamples(t *testing.T) {
	a, b := []uint32{1, 5, 9}, []uint32{2, 9}
	if got := asn.Union(a, b); !slices.Equal(got, []uint32{1, 2, 5, 9}) {
		t.Error(got)
	}
	if got := asn.Minus(a, b); !slices.Equal(got, []uint32{1, 5}) {
		t.Error(got)
	}
	if got := asn.Both(a, b); !slices.Equal(got, []uint32{9}) {
		t.Error(got)
	}
	if asn.Within(a, b) || asn.Within(b, a) || !asn.Within(b, []uint32{1, 2, 9}) {
		t.Error("within")
	}
	if !asn.Within(nil, nil) || !asn.Within(nil, a) || !asn.Within([]uint32{}, nil) || asn.Within(a, nil) || !asn.Within(a, a) {
		t.Error("within: empty")
	}
}

// Sets of many numbers: the even ones, and those that three divides.
func TestPairsLong(t *testing.T) {
	var even, third, union, minus, both []uint32
	for n := range uint32(3 * api.MaxItems) {
		two, three := n%2 == 0, n%3 == 0
		for _, x := range []struct {
			in bool
			l  *[]uint32
		}{{two, &even}, {three, &third}, {two || three, &union}, {two && !three, &minus}, {two && three, &both}} {
			if x.in {
				*x.l = append(*x.l, n)
			}
		}
	}
	if !slices.Equal(asn.Union(even, third), union) || !slices.Equal(asn.Minus(even, third), minus) || !slices.Equal(asn.Both(even, third), both) {
		t.Error("long sets")
	}
	if !asn.Within(both, third) || !asn.Within(both, even) || asn.Within(even, third) || asn.Within(union, even) || !asn.Within(even, union) {
		t.Error("within: long sets")
	}
	if !slices.Equal(asn.Union(asn.Minus(even, third), asn.Both(even, third)), even) {
		t.Error("minus and both: long sets")
	}
}

// Lists of any kind: order counts, and so does how often a number comes.
func TestSame(t *testing.T) {
	all := lists(3, 0, 1, math.MaxUint32)
	for i, a := range all {
		for j, b := range all {
			if asn.Same(a, b) != (i == j) {
				t.Error(a, b)
			}
		}
	}
	for _, x := range [][2][]uint32{{nil, nil}, {nil, {}}, {{}, nil}, {{9, 1, 9}, {9, 1, 9}}} {
		if !asn.Same(x[0], x[1]) {
			t.Error(x)
		}
	}
	for _, x := range [][2][]uint32{
		{nil, {0}}, {{0}, nil}, {{1, 2}, {2, 1}}, {{1}, {1, 1}}, {{1, 1}, {1}}, {{1, 2, 3}, {1, 2}}, {{1, 2, 3}, {1, 2, 4}}, {{1, 2, 3}, {0, 2, 3}},
	} {
		if asn.Same(x[0], x[1]) {
			t.Error(x)
		}
	}
}

// Every function returns for every list, whether it is a set or not.
func TestAnyLists(t *testing.T) {
	all := lists(4, 0, 5, math.MaxUint32)
	for _, a := range all {
		for _, n := range []uint32{0, 1, 5, math.MaxUint32} {
			asn.Has(a, n)
			asn.With(a, n)
			asn.Without(a, n)
		}
		for _, b := range all {
			asn.Union(a, b)
			asn.Minus(a, b)
			asn.Both(a, b)
			asn.Within(a, b)
		}
	}
}
