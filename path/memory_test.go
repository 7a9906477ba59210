package path_test

import (
	"slices"
	"testing"

	"confluence/api"
	"confluence/path"
)

// mark fills the memory behind a list, where nothing may be written either.
const mark = 0xdecade

// roomy is a copy of numbers with room behind it.
func roomy(l []uint32) []uint32 {
	return append(slices.Clone(l), mark, mark, mark, mark)[:len(l)]
}

// roomyWay is a copy of a path with room behind it and behind its lists.
func roomyWay(l []api.Seg) []api.Seg {
	var c []api.Seg
	for _, s := range l {
		c = append(c, other(s.Kind, roomy(s.AS)...))
	}
	return append(c, other(mark, mark), other(mark, mark))[:len(l)]
}

// clone is a copy of a path that shares nothing with it.
func clone(l []api.Seg) []api.Seg {
	var c []api.Seg
	for _, s := range l {
		c = append(c, other(s.Kind, slices.Clone(s.AS)...))
	}
	return c
}

// whole is a copy of all the memory that a path reaches, the room behind its lists too.
func whole(l []api.Seg) []api.Seg {
	var c []api.Seg
	for _, s := range l[:cap(l)] {
		c = append(c, other(s.Kind, slices.Clone(s.AS[:cap(s.AS)])...))
	}
	return c
}

// scribble writes over all the memory that a path reaches.
func scribble(l []api.Seg) {
	l = l[:cap(l)]
	for i := range l {
		blot(l[i].AS)
		l[i].Kind = 0xbad
	}
}

// blot writes over all the memory that a list reaches.
func blot(l []uint32) {
	l = l[:cap(l)]
	for i := range l {
		l[i] = 0xbad
	}
}

// apart writes over one list of a path after the other: none of those behind it may change by that.
func apart(t *testing.T, name string, l []api.Seg) {
	for i := range l {
		keep := clone(l[i+1:])
		blot(l[i].AS)
		if !equal(l[i+1:], keep) {
			t.Error(name, i, "two lists of one answer share memory")
		}
	}
}

// makers are the functions that answer a path, or numbers, of a path.
var makers = []struct {
	name string
	f    func(l []api.Seg) []api.Seg
}{
	{"norm", path.Norm},
	{"prepend none", func(l []api.Seg) []api.Seg { return path.Prepend(l, 9, 0) }},
	{"prepend", func(l []api.Seg) []api.Seg { return path.Prepend(l, 9, 2) }},
	{"prepend many", func(l []api.Seg) []api.Seg { return path.Prepend(l, 9, 255) }},
	{"all", func(l []api.Seg) []api.Seg { return way(seq(path.All(l)...)) }},
	{"lead", func(l []api.Seg) []api.Seg { return way(seq(path.Lead(l)...)) }},
}

// An answer shares no memory with what it was made of, nor with the next answer, nor one list of it with another; and no argument changes.
func TestMemory(t *testing.T) {
	for _, m := range makers {
		for _, x := range append(ways(2, pool()), example(), way(seq(count(0, 600)...), set(count(0, 600)...))) {
			l := roomyWay(x)
			keep := whole(l)
			got := m.f(l)
			want := clone(got)
			scribble(m.f(l))
			if !equal(got, want) {
				t.Error(m.name, tell(x), "two answers share memory")
			}
			apart(t, m.name, got)
			scribble(got)
			if !equal(whole(l), keep) {
				t.Error(m.name, tell(x), "the argument changed, or is shared")
			}
			scribble(l)
			if again := m.f(x); !equal(again, want) {
				t.Error(m.name, tell(x), "the argument was kept")
			}
		}
	}
}

// Numbers that are handed over whole stay as they are, and so does the room behind them.
func TestMemoryNumbers(t *testing.T) {
	for _, size := range []int{0, 1, 3, 255, 256, 600} {
		a, b := roomy(count(5, size)), roomy(count(7, size))
		slices.Reverse(b)
		keepA, keepB := slices.Clone(a[:cap(a)]), slices.Clone(b[:cap(b)])
		for _, l := range [][]api.Seg{path.Seq(a...), path.Join(a, b), path.Join(b, b)} {
			apart(t, "seq, join", l)
			scribble(l)
		}
		if !slices.Equal(a[:cap(a)], keepA) || !slices.Equal(b[:cap(b)], keepB) {
			t.Error(size, "an argument changed, or is shared")
		}
		s, j := path.Seq(a...), path.Join(a, a)
		keepS, keepJ := clone(s), clone(j)
		blot(a)
		if !equal(s, keepS) || !equal(j, keepJ) {
			t.Error(size, "an argument was kept")
		}
	}
}

// Paths that only are looked at stay as they are, and so does the room behind them.
func TestMemoryAsked(t *testing.T) {
	for _, x := range ways(2, pool()) {
		l := roomyWay(x)
		keep := whole(l)
		path.Good(l)
		path.Same(l, l)
		path.Same(l, x)
		path.Len(l)
		path.Has(l, 5)
		path.First(l)
		path.Last(l)
		path.Text(l)
		if !equal(whole(l), keep) {
			t.Error(tell(x))
		}
	}
}

func TestMemoryParse(t *testing.T) {
	s := path.Text(path.Join(count(0, 600), count(0, 600)))
	a, e := path.Parse(s)
	b, f := path.Parse(s)
	apart(t, "parse", a)
	scribble(a)
	if e != api.OK || f != api.OK || path.Text(b) != s {
		t.Error(len(b), e, f)
	}
}
