package asn_test

import (
	"math"
	"slices"
	"testing"

	"confluence/api"
	"confluence/asn"
)

// mark fills the memory behind a list, where nothing may be written either.
const mark = 0xdecade

// roomy is a copy of l with room behind it, and the whole of its memory.
func roomy(l []uint32) (list, whole []uint32) {
	whole = append(slices.Clone(l), mark, mark, mark, mark)
	return whole[:len(l)], whole
}

// makers are the functions that answer lists.
var makers = []struct {
	name string
	f    func(a, b []uint32) []uint32
}{
	{"set", func(a, b []uint32) []uint32 { return asn.Set(a...) }},
	{"with", func(a, b []uint32) []uint32 { return asn.With(a, 6) }},
	{"with end", func(a, b []uint32) []uint32 { return asn.With(a, math.MaxUint32) }},
	{"without", func(a, b []uint32) []uint32 { return asn.Without(a, 6) }},
	{"without end", func(a, b []uint32) []uint32 { return asn.Without(a, 9) }},
	{"union", asn.Union},
	{"minus", asn.Minus},
	{"both", asn.Both},
}

// An answer shares no memory with what it was made of, nor with the next answer, and neither argument changes.
func TestMemory(t *testing.T) {
	sets := [][]uint32{nil, {}, {6}, {9}, {1, 6, 9}, {1, 5, 9}, {1, 5}, {5, 6, 7}, {9, 10}, {0, math.MaxUint32}}
	for _, m := range makers {
		for _, x := range sets {
			for _, y := range sets {
				a, wholeA := roomy(x)
				b, wholeB := roomy(y)
				keepA, keepB := slices.Clone(wholeA), slices.Clone(wholeB)
				got := m.f(a, b)
				keep := slices.Clone(got)
				again := m.f(a, b)
				scribble(again)
				if !slices.Equal(got, keep) {
					t.Error(m.name, x, y, "two answers share memory")
				}
				scribble(got)
				if !slices.Equal(wholeA, keepA) || !slices.Equal(wholeB, keepB) {
					t.Error(m.name, x, y, "an argument changed")
				}
				scribble(a)
				scribble(b)
				if got := m.f(slices.Clone(x), slices.Clone(y)); !slices.Equal(got, keep) {
					t.Error(m.name, x, y, "an argument was kept")
				}
			}
		}
	}
}

// One list handed in twice, or two pieces of one list.
func TestMemoryShared(t *testing.T) {
	l := []uint32{1, 5, 6, 9}
	a, b := l[:3], l[1:]
	if !slices.Equal(asn.Union(a, b), l) || !slices.Equal(asn.Minus(a, b), l[:1]) || !slices.Equal(asn.Both(a, b), l[1:3]) {
		t.Error("pieces of one list")
	}
	if !slices.Equal(asn.Union(l, l), l) || len(asn.Minus(l, l)) != 0 || !slices.Equal(asn.Both(l, l), l) || !asn.Within(l, l) {
		t.Error("a list and itself")
	}
	if !slices.Equal(l, []uint32{1, 5, 6, 9}) {
		t.Error(l)
	}
}

// Order and repetition in what is handed to Set stay as they are, and so do the lists that only are looked at.
func TestMemoryAsked(t *testing.T) {
	l, whole := roomy([]uint32{9, 1, 9, 0})
	asn.Set(l...)
	asn.Is(l)
	asn.Has(l, 9)
	asn.Within(l, l)
	asn.Same(l, l)
	asn.Text(l)
	if !slices.Equal(whole, []uint32{9, 1, 9, 0, mark, mark, mark, mark}) {
		t.Error(whole)
	}
}

func TestMemoryParse(t *testing.T) {
	a, e := asn.Parse("1 2 3")
	b, f := asn.Parse("1 2 3")
	scribble(a)
	if e != api.OK || f != api.OK || !slices.Equal(b, []uint32{1, 2, 3}) {
		t.Error(b, e, f)
	}
}

// scribble writes over all the memory that a list reaches.
func scribble(l []uint32) {
	l = l[:cap(l)]
	for i := range l {
		l[i] = 0xbad
	}
}
