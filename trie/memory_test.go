package trie_test

import (
	"slices"
	"testing"

	"confluence/api"
	"confluence/trie"
)

// smear writes over all the memory that a list reaches, and behind it.
func smear(l []api.Prefix) {
	for _, l := range [][]api.Prefix{l[:cap(l)], append(l, at(7, 7))} {
		for i := range l {
			l[i] = at(0xbad, -7)
		}
	}
}

// P14.2: a list that was answered can be written over: neither the trie nor another list changes.

func TestListsAreNew(t *testing.T) {
	probes := pool()
	x, m := trie.New[int](), plain[int]{}
	for i, p := range probes {
		put(t, x, m, p, i+1)
	}
	for _, p := range probes {
		asked := map[string]func() []api.Prefix{
			"All":   x.All,
			"Above": func() []api.Prefix { return x.Above(p) },
			"Below": func() []api.Prefix { return x.Below(p) },
		}
		for name, ask := range asked {
			kept, other := ask(), ask()
			want := slices.Clone(kept)
			smear(other)
			if !slices.Equal(kept, want) || !slices.Equal(ask(), want) {
				t.Fatal(name, p, kept, want)
			}
			for _, ask := range asked {
				smear(ask())
			}
			if !slices.Equal(kept, want) {
				t.Fatal(name, p, kept, want)
			}
			same(t, x, m, probes)
		}
	}
	// A list stays as it was when the trie changes.
	all, below := x.All(), x.Below(at(0, 0))
	want := slices.Clone(all)
	for _, p := range want[:8] {
		cut(t, x, m, p)
		put(t, x, m, at(p.Addr&mask(5), 5), 5)
	}
	if !slices.Equal(all, want) || !slices.Equal(below, want[1:]) {
		t.Error(all, below)
	}
}

// P14.2: beside nothing all that is answered is zero, also where there is something else.

func TestNothingIsZero(t *testing.T) {
	x := trie.New[int]()
	x.Put(at(0x0a000000, 8), 8)
	x.Put(at(0x0a800000, 9), 9)
	for _, p := range []api.Prefix{at(0, 0), at(0x0a000000, 9), at(0x0a000000, 32), at(0x0a800000, 10), at(0x0b000000, 8), at(0x0a000001, 8)} {
		if v, ok := x.Get(p); v != 0 || ok {
			t.Error("Get", p, v, ok)
		}
		if v, ok := x.Cut(p); v != 0 || ok {
			t.Error("Cut", p, v, ok)
		}
	}
	for _, a := range []uint32{0, 0x09ffffff, 0x0b000000, 1 << 31} {
		if p, v, ok := x.Longest(a); p != (api.Prefix{}) || v != 0 || ok {
			t.Error("Longest", a, p, v, ok)
		}
	}
}

// P14.1: two tries know nothing of one another.

func TestApart(t *testing.T) {
	x, y := trie.New[int](), trie.New[int]()
	m, n := plain[int]{}, plain[int]{}
	l := pool()
	for i, p := range l {
		put(t, x, m, p, i)
		put(t, y, n, l[len(l)-1-i], -i)
		if i%3 == 0 {
			cut(t, y, n, l[i])
		}
		same(t, x, m, l)
		same(t, y, n, l)
	}
}

// several is a value of more than one part, which is held part by part.
type several struct {
	name string
	ways [2]api.Prefix
}

// roundOf puts values of a type, the zero value among them, over one another, and cuts them.
func roundOf[T comparable](t *testing.T, values ...T) {
	t.Helper()
	var zero T
	values = append(values, zero)
	x, m := trie.New[T](), plain[T]{}
	for i, v := range values {
		for j, p := range pool() {
			put(t, x, m, p, v)
			if i > 0 && j%3 == i%3 {
				cut(t, x, m, p)
			}
			if j%4 == 0 {
				put(t, x, m, p, zero)
			}
			same(t, x, m, pool())
		}
	}
	for _, p := range pool() {
		cut(t, x, m, p)
		same(t, x, m, pool())
	}
}

// P14.1: values of several types; a zero value that was put is a value.

func TestValues(t *testing.T) {
	roundOf(t, 1, -1, 1<<40)
	roundOf(t, "a", "another")
	roundOf(t, true)
	roundOf(t, several{name: "x"}, several{ways: [2]api.Prefix{at(0, 1), {}}})
	roundOf(t, struct{}{})
	roundOf(t, new(int), new(int))
	roundOf[error](t, api.ErrArg, api.ErrDup)
	roundOf[any](t, 1, "a", several{}, struct{}{})
	roundOf(t, [3]int{1, 2, 3})
}

// P14.1: values that cannot be held against each other: lists and functions come back as they were put.

func TestOtherValues(t *testing.T) {
	x := trie.New[[]int]()
	p := at(0x0a000000, 8)
	if was, had := x.Put(p, nil); was != nil || had {
		t.Error(was, had)
	}
	if v, ok := x.Get(p); v != nil || !ok {
		t.Error(v, ok)
	}
	if was, had := x.Put(p, []int{1, 2}); was != nil || !had {
		t.Error(was, had)
	}
	if q, v, ok := x.Longest(0x0a000001); q != p || !slices.Equal(v, []int{1, 2}) || !ok {
		t.Error(q, v, ok)
	}
	if v, ok := x.Cut(p); !slices.Equal(v, []int{1, 2}) || !ok {
		t.Error(v, ok)
	}
	f := trie.New[func() int]()
	f.Put(p, func() int { return 5 })
	if v, ok := f.Get(p); !ok || v() != 5 {
		t.Error(ok)
	}
	if was, had := f.Put(p, nil); !had || was() != 5 {
		t.Error(had)
	}
	if v, ok := f.Cut(p); v != nil || !ok {
		t.Error(ok)
	}
	// A trie of tries.
	y := trie.New[*trie.Trie[int]]()
	inner := trie.New[int]()
	inner.Put(p, 3)
	y.Put(p, inner)
	if v, _ := y.Get(p); v.Len() != 1 {
		t.Error(v.Len())
	}
	if v, ok := y.Get(at(0, 0)); v != nil || ok || v.Len() != 0 {
		t.Error(ok)
	}
}

// P14.1: a value that was cut, or put over, is not kept.

func TestLetsGo(t *testing.T) {
	x := trie.New[*int]()
	both, low, high := at(0x0a000000, 8), at(0x0a000000, 9), at(0x0a800000, 9)
	for _, p := range []api.Prefix{both, low, high} {
		x.Put(p, new(int))
	}
	// The node of both stays, for what is below it.
	x.Cut(both)
	if x.Nodes() != 3 {
		t.Fatal(x.Nodes())
	}
	if v, ok := x.Get(both); v != nil || ok {
		t.Error(v, ok)
	}
	if q, v, ok := x.Longest(0x0b000000); q != (api.Prefix{}) || v != nil || ok {
		t.Error(q, v, ok)
	}
	if was, had := x.Put(both, nil); was != nil || had {
		t.Error(was, had)
	}
}
