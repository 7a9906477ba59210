package trie_test

import (
	"fmt"
	"math"
	"math/rand"
	"slices"
	"testing"

	"confluence/api"
	"confluence/trie"
)

// tell is all that a trie answers, about the prefixes of probes too, as a text.
func tell[T any](x *trie.Trie[T], probes []api.Prefix) string {
	s := fmt.Sprint(x.All(), x.Len(), x.Nodes(), x.Check())
	for _, p := range probes {
		v, ok := x.Get(p)
		s += fmt.Sprint(p, v, ok, x.Above(p), x.Below(p), x.Count(p))
	}
	for _, a := range edges(probes) {
		p, v, ok := x.Longest(a)
		s += fmt.Sprint(p, v, ok)
	}
	return s
}

// orders calls visit with each order of a list.
func orders[T any](l []T, visit func([]T)) {
	var swap func(int)
	swap = func(n int) {
		if n <= 1 {
			visit(l)
			return
		}
		for i := range n {
			l[i], l[n-1] = l[n-1], l[i]
			swap(n - 1)
			l[i], l[n-1] = l[n-1], l[i]
		}
	}
	swap(len(l))
}

// heaps are prefixes that lie apart, side by side, and within one another.
func heaps() [][]api.Prefix {
	return [][]api.Prefix{
		{at(0x0a000000, 8), at(0x0a010000, 16), at(0x0a020000, 16), at(0x0a010100, 24), at(0, 0), at(0xc0000000, 2)},
		{at(0, 0), at(0, 1), at(1<<31, 1), at(0, 2), at(0x40000000, 2), at(0xc0000000, 2)},
		{at(0, 32), at(1, 32), at(2, 32), at(4, 32), at(8, 32), at(math.MaxUint32, 32)},
		{at(0x0a000000, 32), at(0x0a000000, 31), at(0x0a000000, 30), at(0x0a000000, 8), at(0x0a000001, 32), at(0x0b000000, 8)},
	}
}

// P14.4: every order of six prefixes answers the same, and so does every order with others put and cut between.

func TestOrders(t *testing.T) {
	others := []api.Prefix{at(0x0a000000, 15), at(0x80000000, 3), at(3, 32), at(0x0a000000, 7), at(0x0a000000, 29), at(0x0a010101, 32)}
	for i, l := range heaps() {
		probes := slices.Concat(l, others)
		want := ""
		orders(slices.Clone(l), func(turn []api.Prefix) {
			x, y := trie.New[api.Prefix](), trie.New[api.Prefix]()
			for k, p := range turn {
				x.Put(p, p)
				y.Put(others[k], at(7, 7))
				y.Put(p, p)
				y.Cut(others[(k+5)%6])
				y.Cut(turn[(k+1)%6])
				y.Put(p, p)
			}
			for k, p := range turn {
				y.Put(turn[5-k], at(8, 8))
				y.Cut(others[k])
				y.Put(p, p)
				y.Put(turn[5-k], turn[5-k])
			}
			if want == "" {
				want = tell(x, probes)
			}
			if s := tell(x, probes); s != want {
				t.Fatal(i, turn, s, want)
			}
			if s := tell(y, probes); s != want {
				t.Fatal(i, turn, s, want)
			}
		})
	}
}

// P14.4: whatever is cut, in every order, what stays answers as if it alone had been put.

func TestCutOrders(t *testing.T) {
	for i, l := range heaps() {
		wants := map[string]string{}
		orders(slices.Clone(l), func(turn []api.Prefix) {
			x := trie.New[api.Prefix]()
			for _, p := range l {
				x.Put(p, p)
			}
			for k, p := range turn {
				x.Cut(p)
				left := slices.Clone(turn[k+1:])
				slices.SortFunc(left, order)
				name := fmt.Sprint(left)
				if _, ok := wants[name]; !ok {
					y := trie.New[api.Prefix]()
					for _, q := range left {
						y.Put(q, q)
					}
					wants[name] = tell(y, l)
				}
				if s := tell(x, l); s != wants[name] {
					t.Fatal(i, turn, k, s, wants[name])
				}
			}
		})
		if len(wants) != 63 {
			t.Fatal(len(wants))
		}
	}
}

// P14.4: a hundred prefixes in many orders.

func TestShuffled(t *testing.T) {
	r := rand.New(rand.NewSource(4))
	l := []api.Prefix{}
	for len(l) < 100 {
		if p := some(r); !slices.Contains(l, p) {
			l = append(l, p)
		}
	}
	want := ""
	for i := range 60 {
		r.Shuffle(len(l), func(a, b int) { l[a], l[b] = l[b], l[a] })
		x := trie.New[api.Prefix]()
		for _, p := range l {
			q := some(r)
			x.Put(q, at(1, 1))
			x.Put(p, at(2, 2))
			if i%2 == 0 {
				x.Cut(l[r.Intn(len(l))])
			}
		}
		for _, p := range x.All() {
			if !slices.Contains(l, p) {
				x.Cut(p)
			}
		}
		for _, p := range l {
			x.Put(p, p)
		}
		sorted := slices.SortedFunc(slices.Values(l), order)
		s := tell(x, sorted)
		if want == "" {
			want = s
		}
		if s != want || !slices.Equal(x.All(), sorted) {
			t.Fatal(i, s, want)
		}
	}
}

// FuzzTrie does with a trie, and with what it stands for, what bytes say: four bytes are a prefix that is put or cut.
func FuzzTrie(f *testing.F) {
	f.Add([]byte{})
	f.Add([]byte{0, 8, 1, 2, 0, 16, 1, 2, 64, 8, 1, 2})
	f.Add([]byte{0, 32, 0, 0, 0, 32, 0, 1, 64, 32, 0, 0, 200, 33, 9, 9})
	f.Fuzz(func(t *testing.T, b []byte) {
		x, m := trie.New[int](), plain[int]{}
		for i := 0; i+4 <= min(len(b), 160); i += 4 {
			n := int(b[i+1])%36 - 1
			p := at(uint32(b[i+2])<<24|uint32(b[i+2])<<7|uint32(b[i+3]), n)
			if b[i]&128 == 0 {
				p.Addr &= mask(min(max(n, 0), 32))
			}
			if b[i]&64 == 0 {
				put(t, x, m, p, i)
			} else {
				cut(t, x, m, p)
			}
			same(t, x, m, []api.Prefix{p, at(p.Addr&mask(max(n, 0)/2), max(n, 0)/2)})
		}
		probes := x.All()
		y := trie.New[int]()
		for _, p := range slices.Backward(probes) {
			y.Put(p, m[p])
		}
		if a, b := tell(x, probes), tell(y, probes); a != b {
			t.Fatal(a, b)
		}
	})
}
