package path_test

import (
	"math"
	"slices"
	"testing"

	"confluence/api"
	"confluence/path"
)

// normal builds the normal form number by number: each one joins the sequence ahead of it as long as there is room.
func normal(l []api.Seg) []api.Seg {
	var out []api.Seg
	for _, s := range l {
		if s.Kind == 2 {
			for _, n := range s.AS {
				end := len(out) - 1
				if end < 0 || out[end].Kind != 2 || len(out[end].AS) == 255 {
					out = append(out, seq())
					end++
				}
				out[end].AS = append(out[end].AS, n)
			}
		}
		if s.Kind == 1 && len(s.AS) > 0 {
			// Each number goes ahead of the first one that is greater, unless it is there.
			var set []uint32
			for _, n := range s.AS {
				at := 0
				for at < len(set) && set[at] < n {
					at++
				}
				if at == len(set) || set[at] != n {
					set = slices.Insert(set, at, n)
				}
			}
			out = append(out, api.Seg{Kind: 1, AS: set})
		}
	}
	return out
}

// P4.1

func TestNorm(t *testing.T) {
	for i, x := range []struct{ l, want []api.Seg }{
		{nil, nil}, {way(), nil}, {example(), example()}, {way(seq(1), seq(), set(), other(7, 9), seq(2), set(5, 4, 5)), way(seq(1, 2), set(4, 5))},
		{way(seq()), nil}, {way(set()), nil}, {way(other(0)), nil}, {way(other(0, 1), other(3, 2), other(7, 3), other(-1, 4), other(1<<32+1, 5), other(1<<32+2, 6)), nil}, {way(seq(), set(), other(3), seq()), nil},
		{way(seq(1), seq(2), seq(3)), way(seq(1, 2, 3))}, {way(seq(1), set(2), seq(3)), way(seq(1), set(2), seq(3))}, {way(seq(2, 1, 2)), way(seq(2, 1, 2))},
		{way(set(1), set(1)), way(set(1), set(1))}, {way(set(3), set(2, 1)), way(set(3), set(1, 2))}, {way(set(1), set(), set(2)), way(set(1), set(2))}, {way(set(1), seq(), set(2)), way(set(1), set(2))},
		{way(set(0, 0, 0)), way(set(0))}, {way(set(math.MaxUint32, 0, math.MaxUint32)), way(set(0, math.MaxUint32))},
		{way(seq(count(0, 255)...)), way(seq(count(0, 255)...))}, {way(seq(count(0, 256)...)), way(seq(count(0, 255)...), seq(255))}, {way(seq(count(0, 254)...), seq(254, 255)), way(seq(count(0, 255)...), seq(255))},
		{way(seq(count(0, 510)...)), way(seq(count(0, 255)...), seq(count(255, 255)...))}, {way(seq(count(0, 511)...)), way(seq(count(0, 255)...), seq(count(255, 255)...), seq(510))},
		{way(seq(1), seq(count(2, 255)...)), way(seq(count(1, 255)...), seq(256))}, {way(seq(count(0, 255)...), seq(255)), way(seq(count(0, 255)...), seq(255))},
		{way(seq(count(0, 100)...), other(7, 1), seq(count(100, 100)...), set(), seq(count(200, 100)...), set(1), seq(count(300, 300)...)), way(seq(count(0, 255)...), seq(count(255, 45)...), set(1), seq(count(300, 255)...), seq(count(555, 45)...))},
		// A set stays one set, however many numbers it has.
		{way(set(count(0, 255)...)), way(set(count(0, 255)...))}, {way(set(count(0, 256)...)), way(set(count(0, 256)...))}, {way(set(append(count(5, 300), count(0, 300)...)...)), way(set(count(0, 305)...))},
	} {
		if l := path.Norm(x.l); !equal(l, x.want) {
			t.Error(i, tell(l))
		}
	}
}

// Every short path: its normal form, which is its own, and good if no set is too long.
func TestNormAll(t *testing.T) {
	for _, l := range ways(3, pool()) {
		want := normal(l)
		got := path.Norm(l)
		if !equal(got, want) {
			t.Error(tell(l), tell(got))
		}
		if again := path.Norm(got); !equal(again, got) {
			t.Error(tell(l), tell(got), tell(again))
		}
		long := slices.ContainsFunc(got, func(s api.Seg) bool { return s.Kind == 1 && len(s.AS) > 255 })
		if path.Good(got) == long {
			t.Error(tell(l), tell(got), !long)
		}
		if path.Good(l) && !equal(got, l) {
			t.Error(tell(l), tell(got))
		}
	}
}

// Many segments: no limit is named for what Norm answers.
func TestNormLong(t *testing.T) {
	for _, size := range []int{100, 101, 255, 256, 1000, 25500, 25501} {
		var singles, sets, mixed []api.Seg
		for i := range size {
			singles = append(singles, seq(uint32(i)))
			sets = append(sets, set(uint32(i)))
			mixed = append(mixed, seq(uint32(i)), set(uint32(i)))
		}
		if l := path.Norm(singles); !equal(l, normal(singles)) || len(l) != (size+254)/255 || path.Good(l) != (size <= 25500) {
			t.Error(size, len(l))
		}
		if l := path.Norm(sets); !equal(l, sets) || path.Good(l) != (size <= 100) {
			t.Error(size, len(l))
		}
		if l := path.Norm(mixed); !equal(l, mixed) {
			t.Error(size, len(l))
		}
	}
}

// P4.3

func TestSeq(t *testing.T) {
	if l := path.Seq(); len(l) != 0 {
		t.Error(tell(l))
	}
	if l := path.Seq(2, 1, 2); !equal(l, way(seq(2, 1, 2))) {
		t.Error(tell(l))
	}
	if l := path.Seq(0); !equal(l, way(seq(0))) {
		t.Error(tell(l))
	}
	if l := path.Seq(count(0, 300)...); !equal(l, way(seq(count(0, 255)...), seq(count(255, 45)...))) {
		t.Error(tell(l))
	}
	for _, size := range []int{1, 2, 254, 255, 256, 509, 510, 511, 765, 2000, 25500, 25501} {
		var want []api.Seg
		for at := 0; at < size; at += 255 {
			want = append(want, seq(count(uint32(3+at), min(255, size-at))...))
		}
		l := path.Seq(count(3, size)...)
		if !equal(l, want) || path.Good(l) != (size <= 25500) || path.Len(l) != size {
			t.Error(size, len(l))
		}
	}
}

func TestPrepend(t *testing.T) {
	for i, x := range []struct {
		l     []api.Seg
		n     uint32
		times int
		want  []api.Seg
	}{
		{example(), 9, 2, way(seq(9, 9, 1, 2), set(3, 4), seq(5))}, {example(), 9, 1, way(seq(9, 1, 2), set(3, 4), seq(5))}, {example(), 9, 0, example()}, {example(), 1, 1, way(seq(1, 1, 2), set(3, 4), seq(5))},
		{nil, 9, 1, way(seq(9))}, {nil, 0, 2, way(seq(0, 0))}, {nil, 9, 0, nil}, {way(), 9, 3, way(seq(9, 9, 9))}, {nil, math.MaxUint32, 1, way(seq(math.MaxUint32))},
		{way(set(1, 2)), 9, 1, way(seq(9), set(1, 2))}, {way(set(1, 2)), 1, 2, way(seq(1, 1), set(1, 2))}, {way(set(1, 2)), 9, 0, way(set(1, 2))},
		{example(), 9, -1, example()}, {example(), 9, math.MinInt, example()}, {nil, 9, -1, nil}, {way(set(1)), 9, math.MinInt, way(set(1))},
		{nil, 7, 254, way(seq(sevens(254)...))}, {nil, 7, 255, way(seq(sevens(255)...))}, {nil, 7, 256, way(seq(sevens(255)...))}, {nil, 7, 1000, way(seq(sevens(255)...))}, {nil, 7, math.MaxInt, way(seq(sevens(255)...))},
		{way(seq(1)), 7, 254, way(seq(append(sevens(254), 1)...))}, {way(seq(1)), 7, 255, way(seq(sevens(255)...), seq(1))}, {way(seq(1)), 7, 256, way(seq(sevens(255)...), seq(1))}, {way(set(1)), 7, 300, way(seq(sevens(255)...), set(1))},
		{way(seq(count(1, 255)...)), 0, 1, way(seq(count(0, 255)...), seq(255))}, {way(seq(count(1, 254)...)), 0, 1, way(seq(count(0, 255)...))}, {way(seq(count(1, 255)...), seq(256)), 0, 1, way(seq(count(0, 255)...), seq(255, 256))},
		// What is not in normal form is brought there, whether anything is prepended or not.
		{way(seq(), other(7, 1), set(), seq(2), seq(3), set(5, 4, 5)), 9, 1, way(seq(9, 2, 3), set(4, 5))}, {way(seq(), other(7, 1), set(), seq(2), seq(3), set(5, 4, 5)), 9, 0, way(seq(2, 3), set(4, 5))}, {way(set(2, 1)), 9, -5, way(set(1, 2))}, {way(other(3, 3)), 9, 1, way(seq(9))},
	} {
		if l := path.Prepend(x.l, x.n, x.times); !equal(l, x.want) {
			t.Error(i, tell(l))
		}
	}
}

// sevens is size times the number 7.
func sevens(size int) []uint32 {
	var l []uint32
	for range size {
		l = append(l, 7)
	}
	return l
}

// Every short path and number of times, P4.5 with them. A path that is normalized may lose sets without numbers; it is they alone that Len counted and no longer does.
func TestPrependAll(t *testing.T) {
	for _, l := range ways(2, pool()) {
		empty := 0
		for _, s := range l {
			if s.Kind == 1 && len(s.AS) == 0 {
				empty++
			}
		}
		for _, times := range []int{math.MinInt, -256, -1, 0, 1, 2, 3, 254, 255, 256, 257, 65536, 1 << 32, 1<<32 + 1, math.MaxInt} {
			const n = 77
			real := times
			if times < 0 {
				real = 0
			}
			if times > 255 {
				real = 255
			}
			var ahead []uint32
			for range real {
				ahead = append(ahead, n)
			}
			got := path.Prepend(l, n, times)
			if !equal(got, normal(append(way(seq(ahead...)), l...))) {
				t.Error(tell(l), times, tell(got))
			}
			if path.Len(got) != path.Len(l)-empty+real {
				t.Error(tell(l), times, path.Len(got))
			}
			if first, ok := path.First(got); real > 0 && (first != n || !ok) {
				t.Error(tell(l), times, first, ok)
			}
		}
	}
}

// P4.5 of good paths, the longest ones among them, and of numbers at both ends.
func TestPrependGood(t *testing.T) {
	full := path.Seq(count(0, 25500)...)
	for _, l := range [][]api.Seg{nil, example(), way(seq(1)), way(set(1)), way(set(1), seq(1)), way(seq(count(0, 255)...)), way(set(count(0, 255)...)), full} {
		if !path.Good(l) {
			t.Fatal(tell(l))
		}
		for _, n := range []uint32{0, 1, math.MaxUint32} {
			for times := range 256 {
				got := path.Prepend(l, n, times)
				if path.Len(got) != path.Len(l)+times {
					t.Error(len(l), n, times, path.Len(got))
				}
				if first, ok := path.First(got); times > 0 && (first != n || !ok) {
					t.Error(len(l), n, times, first, ok)
				}
				if times > 0 && !path.Has(got, n) {
					t.Error(len(l), n, times)
				}
			}
		}
	}
}

func TestJoin(t *testing.T) {
	for i, x := range []struct {
		lead, set []uint32
		want      []api.Seg
	}{
		{[]uint32{1, 2}, []uint32{9, 3, 9}, way(seq(1, 2), set(3, 9))}, {nil, nil, nil}, {[]uint32{}, []uint32{}, nil}, {[]uint32{1}, nil, way(seq(1))}, {nil, []uint32{1}, way(set(1))}, {[]uint32{0}, []uint32{0}, way(seq(0), set(0))},
		{[]uint32{2, 1, 2}, []uint32{2, 1, 2}, way(seq(2, 1, 2), set(1, 2))}, {nil, []uint32{5, 5, 5}, way(set(5))}, {nil, []uint32{math.MaxUint32, 0}, way(set(0, math.MaxUint32))},
		{nil, count(0, 255), way(set(count(0, 255)...))}, {nil, count(0, 256), way(set(count(0, 255)...), set(255))}, {[]uint32{9}, count(0, 510), way(seq(9), set(count(0, 255)...), set(count(255, 255)...))}, {[]uint32{9}, count(0, 511), way(seq(9), set(count(0, 255)...), set(count(255, 255)...), set(510))},
		{count(0, 255), []uint32{1}, way(seq(count(0, 255)...), set(1))}, {count(0, 256), []uint32{1}, way(seq(count(0, 255)...), seq(255), set(1))}, {count(0, 300), count(0, 300), way(seq(count(0, 255)...), seq(count(255, 45)...), set(count(0, 255)...), set(count(255, 45)...))},
		// What counts is the set: numbers told twice take no room, and the smallest ones come first, wherever they were.
		{nil, append(count(0, 200), count(0, 200)...), way(set(count(0, 200)...))}, {nil, append(count(100, 200), count(0, 100)...), way(set(count(0, 255)...), set(count(255, 45)...))}, {nil, append(count(1, 255), 0), way(set(count(0, 255)...), set(255))}, {nil, append(count(0, 255), 254), way(set(count(0, 255)...))},
	} {
		if l := path.Join(x.lead, x.set); !equal(l, x.want) {
			t.Error(i, tell(l))
		}
	}
}

// Falling sets of every size about the bounds, behind leads of every size about them.
func TestJoinLong(t *testing.T) {
	sizes := []int{0, 1, 2, 254, 255, 256, 509, 510, 511, 1000, 2000, 12750, 12751}
	for _, leads := range sizes {
		for _, size := range sizes {
			var want []api.Seg
			for at := 0; at < leads; at += 255 {
				want = append(want, seq(count(uint32(at), min(255, leads-at))...))
			}
			for at := 0; at < size; at += 255 {
				want = append(want, set(count(uint32(at), min(255, size-at))...))
			}
			falling := count(0, size)
			slices.Reverse(falling)
			l := path.Join(count(0, leads), falling)
			if !equal(l, want) || path.Good(l) != (len(want) <= 100) {
				t.Error(leads, size, len(l))
			}
		}
	}
}
