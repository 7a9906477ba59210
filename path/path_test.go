package path_test

import (
	"math"
	"slices"
	"testing"

	"confluence/api"
	"confluence/asn"
	"confluence/path"
)

// seq and set are segments; other is one that is neither.
func seq(l ...uint32) api.Seg { return api.Seg{Kind: 2, AS: l} }
func set(l ...uint32) api.Seg { return api.Seg{Kind: 1, AS: l} }
func other(kind int, l ...uint32) api.Seg {
	return api.Seg{Kind: kind, AS: l}
}

// way is a path of segments.
func way(l ...api.Seg) []api.Seg { return l }

// count is the numbers from from on, size of them, rising.
func count(from uint32, size int) []uint32 {
	var l []uint32
	for i := range size {
		l = append(l, from+uint32(i))
	}
	return l
}

// example is 1 2 {3 4} 5.
func example() []api.Seg { return way(seq(1, 2), set(3, 4), seq(5)) }

// pool is segments of every sort, good ones and others, short ones and those about as long as one may be.
func pool() []api.Seg {
	return []api.Seg{
		seq(), seq(1), seq(2, 1), seq(0, 0, math.MaxUint32), seq(count(7, 254)...), seq(count(8, 255)...), seq(count(9, 256)...),
		set(), set(1), set(0, math.MaxUint32), set(2, 1), set(1, 1), set(count(3, 255)...), set(count(4, 256)...),
		other(0), other(0, 5), other(3, 5, 6), other(7, 1), other(-1, 9), other(math.MinInt, 3), other(math.MaxInt, 4),
	}
}

// ways is every path of at most most segments of from.
func ways(most int, from []api.Seg) [][]api.Seg {
	all := [][]api.Seg{nil}
	for begin := 0; most > 0; most-- {
		end := len(all)
		for _, l := range all[begin:end] {
			for _, s := range from {
				all = append(all, append(slices.Clone(l), s))
			}
		}
		begin = end
	}
	return all
}

// equal holds two paths against each other number by number, so that it owes nothing to what it checks.
func equal(a, b []api.Seg) bool {
	if len(a) != len(b) {
		return false
	}
	for i := range a {
		if a[i].Kind != b[i].Kind || len(a[i].AS) != len(b[i].AS) {
			return false
		}
		for j := range a[i].AS {
			if a[i].AS[j] != b[i].AS[j] {
				return false
			}
		}
	}
	return true
}

// rising tells whether a list is a set.
func rising(l []uint32) bool {
	for i := range l {
		if i > 0 && l[i-1] >= l[i] {
			return false
		}
	}
	return true
}

// P4.1

func TestGood(t *testing.T) {
	for i, l := range [][]api.Seg{
		nil, {}, example(), way(seq(0)), way(set(0)), way(seq(math.MaxUint32)), way(set(math.MaxUint32)), way(set(0, math.MaxUint32)),
		way(seq(7, 7, 7)), way(seq(2, 1)), way(seq(0, 0)), way(set(1), set(1)), way(set(2), set(1)), way(set(1), seq(1), set(1)), way(seq(1), set(1), seq(1)),
		way(seq(count(0, 254)...)), way(seq(count(0, 255)...)), way(set(count(0, 254)...)), way(set(count(0, 255)...)),
		way(seq(count(0, 255)...), seq(1)), way(seq(count(0, 255)...), seq(count(0, 255)...)), way(seq(count(0, 255)...), seq(count(0, 255)...), seq(1), set(1), seq(1)),
		way(set(1), seq(count(0, 255)...), seq(1)), way(seq(count(0, 255)...), set(1)),
	} {
		if !path.Good(l) {
			t.Error(i, "is good")
		}
	}
	for i, l := range [][]api.Seg{
		way(seq(1), seq(1)), way(seq(1), seq(2)), way(set(1), seq(1), seq(2)), way(seq(1), seq(2), set(1)),
		way(seq(count(0, 254)...), seq(1)), way(seq(count(0, 255)...), seq(1), seq(1)), way(seq(1), seq(count(0, 255)...)), way(seq(count(0, 255)...), seq(count(0, 254)...), seq(1)),
		way(seq(count(0, 256)...)), way(set(count(0, 256)...)), way(seq(count(0, 510)...)), way(set(count(0, 1000)...)), way(set(1), set(count(0, 256)...)), way(seq(count(0, 256)...), seq(1)),
		way(seq()), way(set()), way(seq(1), set()), way(set(1), seq()), way(set(), seq(1)), way(seq(count(0, 255)...), seq()), way(seq(1), seq()),
		way(set(2, 1)), way(set(1, 1)), way(set(1, 3, 2)), way(set(1, 2, 2)), way(set(0, 0)), way(set(1, 2, 1)), way(seq(1), set(1, 2), set(2, 1)), way(set(math.MaxUint32, 0)),
		way(other(0, 1)), way(other(3, 1)), way(other(4, 1)), way(other(7, 1)), way(other(-1, 1)), way(other(-2, 1)), way(other(257, 1)), way(other(258, 1)),
		way(other(1<<32+1, 1)), way(other(1<<32+2, 1)), way(other(math.MinInt, 1)), way(other(math.MaxInt, 1)), way(other(0)), way(other(3)), way(seq(1), other(3, 1)), way(other(0, 1), seq(1)), way(seq(1), other(3), seq(1)),
	} {
		if path.Good(l) {
			t.Error(i, "is not good")
		}
	}
}

// As many segments as there may be, and one more, each good by itself.
func TestGoodSegments(t *testing.T) {
	for _, size := range []int{99, 100, 101, 102, 200, 1000} {
		var sets, full, mixed []api.Seg
		for i := range size {
			sets = append(sets, set(uint32(i)))
			full = append(full, seq(count(uint32(i), 255)...))
			mixed = append(mixed, []api.Seg{seq(1), set(1)}[i%2])
		}
		for _, l := range [][]api.Seg{sets, full, mixed} {
			if path.Good(l) != (size <= 100) {
				t.Error(size)
			}
		}
	}
}

// Every short path, by the chapter's sentence told rule by rule.
func TestGoodAll(t *testing.T) {
	for _, l := range ways(3, pool()) {
		want := true
		for i, s := range l {
			want = want && (s.Kind == 1 || s.Kind == 2) && len(s.AS) >= 1 && len(s.AS) <= 255
			want = want && (s.Kind != 1 || rising(s.AS))
			want = want && (i == 0 || s.Kind != 2 || l[i-1].Kind != 2 || len(l[i-1].AS) >= 255)
		}
		if path.Good(l) != want {
			t.Error(tell(l), !want)
		}
	}
}

func TestSame(t *testing.T) {
	all := ways(2, pool())
	for _, a := range all {
		for _, b := range all {
			if path.Same(a, b) != equal(a, b) {
				t.Error(tell(a), tell(b), !equal(a, b))
			}
		}
	}
	for i, x := range [][2][]api.Seg{
		{nil, nil}, {nil, {}}, {{}, nil}, {example(), example()}, {way(seq()), way(api.Seg{Kind: 2, AS: []uint32{}})}, {way(other(7, 1, 2)), way(other(7, 1, 2))},
	} {
		if !path.Same(x[0], x[1]) || !path.Same(x[1], x[0]) {
			t.Error(i, "are the same")
		}
	}
	for i, x := range [][2][]api.Seg{
		{nil, way(seq())}, {nil, way(set())}, {nil, way(other(0))}, {way(seq()), way(set())}, {way(seq(1)), way(set(1))}, {way(other(0, 1)), way(other(3, 1))}, {way(other(1<<32+1, 1)), way(set(1))},
		{way(seq(1, 2)), way(seq(2, 1))}, {way(set(1, 2)), way(set(2, 1))}, {way(seq(1)), way(seq(1, 1))}, {way(seq(1, 2)), way(seq(1), seq(2))}, {way(set(1, 2)), way(set(1), set(2))},
		{way(seq(1), set(2)), way(set(2), seq(1))}, {example(), example()[:2]}, {example(), example()[1:]}, {example(), way(seq(1, 2), set(3, 4), seq(6))}, {example(), way(seq(1, 2), set(3, 5), seq(5))}, {example(), way(seq(1, 2), seq(3, 4), seq(5))},
	} {
		if path.Same(x[0], x[1]) || path.Same(x[1], x[0]) {
			t.Error(i, "differ")
		}
	}
}

// P4.2

func TestLen(t *testing.T) {
	for _, x := range []struct {
		l    []api.Seg
		want int
	}{
		{nil, 0}, {way(), 0}, {example(), 4}, {way(seq(1)), 1}, {way(set(1)), 1}, {way(set(1, 2, 3)), 1}, {way(set(1), set(2)), 2}, {way(set(1), set(1)), 2}, {way(seq(7, 7, 7)), 3},
		{way(seq(count(0, 255)...)), 255}, {way(seq(count(0, 255)...), seq(count(0, 45)...)), 300}, {way(set(count(0, 255)...)), 1}, {way(set(count(0, 255)...), set(1), seq(1)), 3},
		{way(seq()), 0}, {way(other(7, 1, 2)), 0}, {way(other(0), other(3, 9), seq(1)), 1},
		// Any set counts, also one that is not good.
		{way(set()), 1}, {way(set(2, 1, 2)), 1}, {way(set(count(0, 256)...)), 1},
	} {
		if n := path.Len(x.l); n != x.want {
			t.Error(tell(x.l), n)
		}
	}
	for _, l := range ways(3, pool()) {
		want := 0
		for _, s := range l {
			if s.Kind == 1 {
				want++
			}
			for range s.AS {
				if s.Kind == 2 {
					want++
				}
			}
		}
		if n := path.Len(l); n != want {
			t.Error(tell(l), n, want)
		}
	}
}

// The longest good paths.
func TestLenLong(t *testing.T) {
	var full, sets []api.Seg
	for range 100 {
		full = append(full, seq(count(0, 255)...))
		sets = append(sets, set(count(0, 255)...))
	}
	if n := path.Len(full); n != 25500 {
		t.Error(n)
	}
	if n := path.Len(sets); n != 100 {
		t.Error(n)
	}
}

// Has and All hold against a mark a number, and against each other.
func TestHasAll(t *testing.T) {
	asked := append(count(0, 270), math.MaxUint32, math.MaxUint32-1, 1<<31, 65536)
	for _, l := range append(ways(2, pool()), example(), way(seq(9, 1, 9), set(1), set(9, 10), seq(0))) {
		marks := map[uint32]int{}
		for _, s := range l {
			for _, n := range s.AS {
				marks[n]++
			}
		}
		for _, n := range asked {
			if path.Has(l, n) != (marks[n] > 0) {
				t.Error(tell(l), n)
			}
		}
		all := path.All(l)
		if !rising(all) || len(all) != len(marks) {
			t.Error(tell(l), all)
		}
		for _, n := range all {
			if marks[n] == 0 || !path.Has(l, n) {
				t.Error(tell(l), n)
			}
		}
	}
	if all := path.All(example()); !slices.Equal(all, []uint32{1, 2, 3, 4, 5}) {
		t.Error(all)
	}
	if all := path.All(way(seq(5, 1, 5), set(3), seq(1, 0), set(math.MaxUint32))); !slices.Equal(all, []uint32{0, 1, 3, 5, math.MaxUint32}) {
		t.Error(all)
	}
	if path.Has(nil, 0) || path.Has(way(), 0) || path.Has(way(seq(), set()), 0) || len(path.All(nil)) != 0 || len(path.All(way(seq(), set()))) != 0 {
		t.Error("of none")
	}
}

// A number is found at every place of the longest good path, and only there.
func TestHasPlaces(t *testing.T) {
	var l []api.Seg
	for i := range 100 {
		l = append(l, api.Seg{Kind: 2 - i%2, AS: count(uint32(i)*1000, 255)})
	}
	for i := range uint32(100) {
		for _, at := range []uint32{0, 1, 127, 253, 254} {
			if !path.Has(l, i*1000+at) {
				t.Error(i, at)
			}
		}
		for _, at := range []uint32{255, 256, 999} {
			if path.Has(l, i*1000+at) {
				t.Error(i, at)
			}
		}
	}
	if all := path.All(l); len(all) != 25500 || !asn.Is(all) {
		t.Error(len(all))
	}
}

func TestFirstLast(t *testing.T) {
	for i, x := range []struct {
		l           []api.Seg
		first, last uint32
		begins, end bool
	}{
		{nil, 0, 0, false, false}, {way(), 0, 0, false, false}, {example(), 1, 5, true, true},
		{way(seq(0)), 0, 0, true, true}, {way(seq(7)), 7, 7, true, true}, {way(seq(math.MaxUint32, 3, 1)), math.MaxUint32, 1, true, true},
		{way(set(1)), 0, 0, false, false}, {way(set(1, 2)), 0, 0, false, false}, {way(set(1), seq(2), set(3)), 0, 0, false, false},
		{way(seq(4, 5), set(1)), 4, 0, true, false}, {way(set(1), seq(4, 5)), 0, 5, false, true}, {way(seq(6, 7), set(1), seq(8, 9)), 6, 9, true, true},
		{way(seq(count(10, 255)...), seq(1, 2)), 10, 2, true, true}, {way(seq(count(10, 255)...)), 10, 264, true, true}, {way(seq(count(1, 255)...), seq(count(300, 255)...), set(1)), 1, 0, true, false},
		// What is no sequence, or has no number, has none to tell.
		{way(seq()), 0, 0, false, false}, {way(set()), 0, 0, false, false}, {way(seq(), set(1), seq()), 0, 0, false, false},
		{way(other(7, 1)), 0, 0, false, false}, {way(other(7, 1), seq(2, 3), other(0, 4)), 0, 0, false, false}, {way(other(3, 1), seq(2, 3)), 0, 3, false, true}, {way(seq(2, 3), other(3, 1)), 2, 0, true, false},
	} {
		if n, ok := path.First(x.l); n != x.first || ok != x.begins {
			t.Error(i, "first", n, ok)
		}
		if n, ok := path.Last(x.l); n != x.last || ok != x.end {
			t.Error(i, "last", n, ok)
		}
	}
}

func TestLead(t *testing.T) {
	for i, x := range []struct {
		l    []api.Seg
		want []uint32
	}{
		{nil, nil}, {way(), nil}, {example(), []uint32{1, 2}}, {way(seq(3, 1, 3)), []uint32{3, 1, 3}}, {way(set(1), seq(2)), nil}, {way(set(1)), nil},
		{way(seq(1), set(2), seq(3), set(4), seq(5)), []uint32{1}}, {way(seq(0), set(0)), []uint32{0}},
		{way(seq(count(5, 255)...), seq(260, 261), set(1), seq(2)), count(5, 257)}, {way(seq(count(5, 255)...), seq(count(260, 255)...), seq(515)), count(5, 511)},
		{way(seq(1), seq(2), seq(), seq(3, 4)), []uint32{1, 2, 3, 4}}, {way(seq(1), other(7, 8), seq(2), set(3), seq(4)), []uint32{1, 2}}, {way(other(0, 8), set(3), seq(4)), nil}, {way(seq(1), set(), seq(2)), []uint32{1}},
	} {
		if l := path.Lead(x.l); !slices.Equal(l, x.want) {
			t.Error(i, l)
		}
	}
	for _, l := range ways(3, pool()) {
		var want []uint32
		for i, s := range l {
			sets := slices.ContainsFunc(l[:i], func(s api.Seg) bool { return s.Kind == 1 })
			if s.Kind == 2 && !sets {
				want = append(want, s.AS...)
			}
		}
		if lead := path.Lead(l); !slices.Equal(lead, want) {
			t.Error(tell(l), lead)
		}
	}
}
