package trie_test

import (
	"cmp"
	"fmt"
	"math"
	"math/rand"
	"slices"
	"testing"

	"confluence/api"
	"confluence/trie"
)

// at is a prefix, of whatever length.
func at(addr uint32, n int) api.Prefix { return api.Prefix{Addr: addr, Len: n} }

// bad are prefixes that are not good: lengths outside 0 to 32, and bits behind the length.
func bad() []api.Prefix {
	return []api.Prefix{
		at(0, -1), at(0, 33), at(0, math.MinInt), at(0, math.MaxInt), at(0, 64), at(0, -32), at(0x0a000000, -8), at(0x0a000000, 40),
		at(1, 0), at(1<<31, 0), at(0x0a000001, 8), at(0x0a800000, 8), at(1, 31), at(math.MaxUint32, 31), at(math.MaxUint32, 33), at(0xc0000000, 1),
	}
}

// mask has the highest n bits set, one by one, so that it owes nothing to what it checks.
func mask(n int) uint32 {
	m := uint32(0)
	for i := range n {
		m |= 1 << (31 - i)
	}
	return m
}

// first and last are the ends of a good prefix, wider than an address so that nothing wraps.
func first(p api.Prefix) uint64 { return uint64(p.Addr) }
func last(p api.Prefix) uint64  { return uint64(p.Addr) + 1<<(32-p.Len) - 1 }

// around tells whether all addresses of q are addresses of p, for good ones.
func around(p, q api.Prefix) bool { return first(p) <= first(q) && last(q) <= last(p) }

// good tells whether nothing stands behind a length that there is.
func good(p api.Prefix) bool { return p.Len >= 0 && p.Len <= 32 && p.Addr&^mask(p.Len) == 0 }

// order is by the address, then by the length.
func order(p, q api.Prefix) int {
	return cmp.Or(cmp.Compare(p.Addr, q.Addr), cmp.Compare(p.Len, q.Len))
}

// shared is what two good prefixes have in common, bit by bit.
func shared(p, q api.Prefix) api.Prefix {
	n := 0
	for n < p.Len && n < q.Len && (p.Addr^q.Addr)&mask(n+1) == 0 {
		n++
	}
	return at(p.Addr&mask(n), n)
}

// plain is what a trie stands for: a map, in which all is asked one by one.
type plain[T comparable] map[api.Prefix]T

// all is the prefixes that are wanted, in order.
func (m plain[T]) all(wanted func(api.Prefix) bool) []api.Prefix {
	var l []api.Prefix
	for p := range m {
		if wanted(p) {
			l = append(l, p)
		}
	}
	slices.SortFunc(l, order)
	return l
}

func (m plain[T]) above(p api.Prefix) []api.Prefix {
	l := m.all(func(q api.Prefix) bool { return good(p) && q != p && around(q, p) })
	slices.SortFunc(l, func(a, b api.Prefix) int { return cmp.Compare(a.Len, b.Len) })
	return l
}

func (m plain[T]) below(p api.Prefix) []api.Prefix {
	return m.all(func(q api.Prefix) bool { return good(p) && q != p && around(p, q) })
}

func (m plain[T]) count(p api.Prefix) int {
	n := len(m.below(p))
	if _, ok := m[p]; ok {
		n++
	}
	return n
}

func (m plain[T]) longest(addr uint32) (p api.Prefix, v T, ok bool) {
	for q, x := range m {
		if around(q, at(addr, 32)) && (!ok || q.Len > p.Len) {
			p, v, ok = q, x, true
		}
	}
	return p, v, ok
}

// nodes is how many nodes the least tree has: one for each prefix, and one for whatever two of them have in common.
func (m plain[T]) nodes() int {
	all := map[api.Prefix]bool{}
	for p := range m {
		for q := range m {
			all[shared(p, q)] = true
		}
	}
	return len(all)
}

// edges are addresses at both ends of prefixes, and just outside.
func edges(l []api.Prefix) []uint32 {
	all := []uint32{0, math.MaxUint32}
	for _, p := range l {
		if good(p) {
			all = append(all, uint32(first(p)), uint32(last(p)), uint32(first(p)-1), uint32(last(p)+1))
		}
	}
	return all
}

// wrong tells what a trie answers otherwise than what it stands for, or nothing.
func wrong[T comparable](t *trie.Trie[T], m plain[T], probes []api.Prefix) string {
	if n := t.Len(); n != len(m) {
		return fmt.Sprint("Len ", n)
	}
	if l, want := t.All(), m.all(func(api.Prefix) bool { return true }); !slices.Equal(l, want) {
		return fmt.Sprint("All ", l, want)
	}
	n := t.Nodes()
	if want := m.nodes(); n != want || n > max(0, 2*len(m)-1) || !t.Check() {
		return fmt.Sprint("Nodes ", n, want, t.Check())
	}
	for _, p := range probes {
		v, ok := t.Get(p)
		if want, there := m[p]; v != want || ok != there {
			return fmt.Sprint("Get ", p, v, ok)
		}
		if l, want := t.Above(p), m.above(p); !slices.Equal(l, want) {
			return fmt.Sprint("Above ", p, l, want)
		}
		if l, want := t.Below(p), m.below(p); !slices.Equal(l, want) {
			return fmt.Sprint("Below ", p, l, want)
		}
		if n, want := t.Count(p), m.count(p); n != want {
			return fmt.Sprint("Count ", p, n, want)
		}
	}
	for _, a := range edges(probes) {
		p, v, ok := t.Longest(a)
		if q, want, there := m.longest(a); p != q || v != want || ok != there {
			return fmt.Sprint("Longest ", a, p, v, ok)
		}
	}
	return ""
}

// put and cut do the same to both, and fail where the answers differ.
func put[T comparable](t *testing.T, x *trie.Trie[T], m plain[T], p api.Prefix, v T) {
	t.Helper()
	was, had := x.Put(p, v)
	if want, there := m[p]; was != want || had != there {
		t.Fatal("Put", p, v, was, had)
	}
	if good(p) {
		m[p] = v
	}
}

func cut[T comparable](t *testing.T, x *trie.Trie[T], m plain[T], p api.Prefix) {
	t.Helper()
	v, ok := x.Cut(p)
	if want, there := m[p]; v != want || ok != there {
		t.Fatal("Cut", p, v, ok)
	}
	delete(m, p)
}

// same fails where a trie answers otherwise than what it stands for.
func same[T comparable](t *testing.T, x *trie.Trie[T], m plain[T], probes []api.Prefix) {
	t.Helper()
	if s := wrong(x, m, probes); s != "" {
		t.Fatal(s, m)
	}
}

// P14.1, P14.2

func TestFirst(t *testing.T) {
	x := trie.New[string]()
	if x == nil || x.Len() != 0 || x.Nodes() != 0 || !x.Check() || len(x.All()) != 0 {
		t.Fatal("a new one has something")
	}
	ten, one, two := at(0x0a000000, 8), at(0x0a010000, 16), at(0x0a020000, 16)
	for i, p := range []api.Prefix{ten, one, two} {
		if was, had := x.Put(p, fmt.Sprint(i)); was != "" || had || x.Len() != i+1 || !x.Check() {
			t.Fatal(p, was, had)
		}
	}
	if l := x.Above(one); !slices.Equal(l, []api.Prefix{ten}) {
		t.Error(l)
	}
	if l := x.Below(ten); !slices.Equal(l, []api.Prefix{one, two}) {
		t.Error(l)
	}
	if was, had := x.Put(ten, "new"); was != "0" || !had || x.Len() != 3 {
		t.Error(was, had)
	}
	if v, ok := x.Get(ten); v != "new" || !ok {
		t.Error(v, ok)
	}
	if p, v, ok := x.Longest(0x0a01ffff); p != one || v != "1" || !ok {
		t.Error(p, v, ok)
	}
	if p, v, ok := x.Longest(0x0a030000); p != ten || v != "new" || !ok {
		t.Error(p, v, ok)
	}
	if p, v, ok := x.Longest(0x0b000000); p != (api.Prefix{}) || v != "" || ok {
		t.Error(p, v, ok)
	}
	// What 10.1.0.0/16 and 10.2.0.0/16 have in common is a node, but no prefix.
	both := at(0x0a000000, 14)
	if v, ok := x.Get(both); v != "" || ok || x.Nodes() != 4 || x.Count(both) != 2 {
		t.Error(v, ok, x.Nodes(), x.Count(both))
	}
	if v, ok := x.Cut(both); v != "" || ok || x.Len() != 3 {
		t.Error(v, ok)
	}
	if v, ok := x.Cut(one); v != "1" || !ok || x.Len() != 2 || x.Nodes() != 2 {
		t.Error(v, ok)
	}
	if v, ok := x.Cut(one); v != "" || ok || x.Len() != 2 {
		t.Error(v, ok)
	}
}

// P14.1: what is not good is never there, and does nothing.

func TestNotGood(t *testing.T) {
	x, m := trie.New[int](), plain[int]{}
	for i, p := range append(pool(), at(0, 0), at(0, 31), at(0, 32)) {
		same(t, x, m, bad())
		for _, q := range bad() {
			if was, had := x.Put(q, 7); was != 0 || had {
				t.Fatal("Put", q, was, had)
			}
			if v, ok := x.Get(q); v != 0 || ok {
				t.Fatal("Get", q, v, ok)
			}
			if v, ok := x.Cut(q); v != 0 || ok {
				t.Fatal("Cut", q, v, ok)
			}
			if n := x.Count(q); n != 0 || len(x.Above(q)) != 0 || len(x.Below(q)) != 0 {
				t.Fatal("Count", q, n)
			}
		}
		same(t, x, m, bad())
		put(t, x, m, p, i+1)
	}
}

// P14.1 to P14.3: a nil trie has nothing, and takes nothing.

func TestNil(t *testing.T) {
	var x *trie.Trie[string]
	for _, p := range append(bad(), pool()...) {
		if was, had := x.Put(p, "a"); was != "" || had {
			t.Error("Put", was, had)
		}
		if v, ok := x.Get(p); v != "" || ok {
			t.Error("Get", v, ok)
		}
		if v, ok := x.Cut(p); v != "" || ok {
			t.Error("Cut", v, ok)
		}
		if q, v, ok := x.Longest(p.Addr); q != (api.Prefix{}) || v != "" || ok {
			t.Error("Longest", q, v, ok)
		}
		if len(x.Above(p)) != 0 || len(x.Below(p)) != 0 || x.Count(p) != 0 {
			t.Error("Above, Below, Count", p)
		}
	}
	if len(x.All()) != 0 || x.Len() != 0 || x.Nodes() != 0 || x.Check() {
		t.Error("All, Len, Nodes, Check")
	}
}

// pool is prefixes within one another and apart: the shortest, halves, the longest, and pairs that have no prefix of the pool in common.
func pool() []api.Prefix {
	return []api.Prefix{
		at(0, 0), at(0, 1), at(1<<31, 1), at(0x0a000000, 8), at(0x0a000000, 9), at(0x0a800000, 9), at(0x0a010000, 16), at(0x0a020000, 16),
		at(0x0a010100, 24), at(0x0a010101, 32), at(0x0a010100, 32), at(0xfffffffe, 31), at(0xfffffffe, 32), at(math.MaxUint32, 32), at(0, 32), at(1, 32),
	}
}

// P14.1 to P14.3: all sets of the pool's prefixes, put one by one and cut one by one, with what each answers at every step that is new.

func TestSets(t *testing.T) {
	l := pool()
	probes := slices.Concat(l, bad()[:3], []api.Prefix{at(0, 31), at(0x0a000000, 7), at(0x0a000000, 14), at(0x0a010101, 31), at(0xfffffff8, 29), at(0x0b000000, 8), at(0x0a010100, 30), at(1<<31, 2)})
	x, m := trie.New[int](), plain[int]{}
	// Numbers that differ in one bit from the one ahead make every set come once, with one step between.
	for i := range 1 << len(l) {
		gray := i ^ i>>1
		for j, p := range l {
			_, there := m[p]
			switch wanted := gray>>j&1 == 1; {
			case wanted && !there:
				put(t, x, m, p, i)
			case !wanted && there:
				cut(t, x, m, p)
			}
		}
		if i%61 == 0 || i < 2000 {
			same(t, x, m, probes)
		} else if n := x.Nodes(); n != m.nodes() || x.Len() != len(m) || !x.Check() {
			t.Fatal(i, n, m.nodes())
		}
	}
}

// P14.1 to P14.3: 0.0.0.0/0 to 0.0.0.0/32 within one another, with the other half beside each, from the shortest on and from the longest on, and the same at the other end.

func TestDeep(t *testing.T) {
	low, high := []api.Prefix{at(0, 0)}, []api.Prefix{at(0, 0)}
	for n := 1; n <= 32; n++ {
		low = append(low, at(0, n), at(1<<(32-n), n))
		end := mask(n)
		high = append(high, at(end, n), at(end&^(1<<(32-n)), n))
	}
	for i, l := range [][]api.Prefix{low, high} {
		for _, turn := range []bool{false, true} {
			x, m := trie.New[int](), plain[int]{}
			if turn {
				slices.Reverse(l)
			}
			for j, p := range l {
				put(t, x, m, p, i+j)
				same(t, x, m, l[:j+1])
			}
			if x.Len() != 65 || x.Nodes() != 65 {
				t.Fatal(x.Len(), x.Nodes())
			}
			same(t, x, m, append(pool(), l...))
			for j, p := range l {
				cut(t, x, m, p)
				same(t, x, m, l[:j+1])
			}
			if x.Len() != 0 || x.Nodes() != 0 {
				t.Fatal(x.Len(), x.Nodes())
			}
		}
	}
}

// P14.3: with nothing that is within another prefix there are just 2 * Len - 1 nodes; with prefixes within one another alone there are as many as prefixes.

func TestNodes(t *testing.T) {
	x := trie.New[int]()
	for i := range 1000 {
		x.Put(at(uint32(i)*0x01234567, 32), i)
		if x.Len() != i+1 || x.Nodes() != 2*i+1 || !x.Check() {
			t.Fatal(i, x.Len(), x.Nodes())
		}
	}
	for i := range 1000 {
		if _, ok := x.Cut(at(uint32(i)*0x01234567, 32)); !ok || x.Nodes() != max(0, 2*(999-i)-1) || !x.Check() {
			t.Fatal(i, x.Nodes())
		}
	}
	for n := range 33 {
		x.Put(at(0xc0a80101&mask(n), n), n)
		if x.Nodes() != n+1 || x.Len() != n+1 {
			t.Fatal(n, x.Nodes())
		}
	}
	// The common one is put where it was a node already, and stays a node when it is cut.
	y := trie.New[int]()
	low, high, both := at(0x0a000000, 9), at(0x0a800000, 9), at(0x0a000000, 8)
	for i, want := range []int{1, 3, 3} {
		y.Put([]api.Prefix{low, high, both}[i], i)
		if n := y.Nodes(); n != want {
			t.Error(i, n)
		}
	}
	for i, want := range []int{3, 1, 0} {
		y.Cut([]api.Prefix{both, high, low}[i])
		if n := y.Nodes(); n != want || !y.Check() {
			t.Error(i, n)
		}
	}
}

// P14.2: each length of an address, each with what is around and within it.

func TestEveryLength(t *testing.T) {
	for _, a := range []uint32{0, math.MaxUint32, 0xaaaaaaaa, 0x55555555, 0x0a010203} {
		for n := range 33 {
			p := at(a&mask(n), n)
			x, m := trie.New[int](), plain[int]{}
			put(t, x, m, p, n)
			probes := []api.Prefix{p}
			for k := range 33 {
				probes = append(probes, at(a&mask(k), k), at(p.Addr, max(k, n)), at(a&mask(k)^mask(min(k, 1)), k))
			}
			same(t, x, m, probes)
			put(t, x, m, at(0x0a010203, 32), -n)
			put(t, x, m, at(0x0a010200, 24), 24)
			same(t, x, m, probes)
		}
	}
}

// rows calls visit with each row of n numbers below k.
func rows(n, k int, visit func([]int)) {
	l := make([]int, n)
	for {
		visit(l)
		i := 0
		for i < n && l[i] == k-1 {
			l[i] = 0
			i++
		}
		if i == n {
			return
		}
		l[i]++
	}
}

// P14.1 to P14.3: every row of five puts and cuts of four prefixes, of five kinds.

func TestRows(t *testing.T) {
	for _, l := range [][]api.Prefix{
		{at(0x0a000000, 9), at(0x0a800000, 9), at(0x0a000000, 8), at(0, 0)},
		{at(0x0a010000, 16), at(0x0a020000, 16), at(0x0b000000, 8), at(0x0a000000, 14)},
		{at(0, 32), at(1, 32), at(2, 32), at(0, 30)},
		{at(0, 1), at(1<<31, 1), at(math.MaxUint32, 32), at(0xfffffffe, 31)},
		{at(0x0a000000, 8), at(0x0a010000, 16), at(0x0a010100, 24), at(0x0a010101, 32)},
	} {
		rows(5, 8, func(row []int) {
			x, m := trie.New[int](), plain[int]{}
			for i, k := range row {
				if k < 4 {
					put(t, x, m, l[k], i)
				} else {
					cut(t, x, m, l[k-4])
				}
			}
			if row[0] < 4 && (row[4]+row[1]*3+row[2])%5 == 0 {
				same(t, x, m, l)
			} else if x.Len() != len(m) || x.Nodes() != m.nodes() || !x.Check() {
				t.Fatal(row, x.Len(), x.Nodes())
			}
		})
	}
}

// some is a prefix near others, or anywhere.
func some(r *rand.Rand) api.Prefix {
	n := r.Intn(33)
	a := r.Uint32()
	switch r.Intn(3) {
	case 0:
		a = 0x0a000000 | a&0x00030303
	case 1:
		a = a & 0x80000003
	}
	return at(a&mask(n), n)
}

// P14.1 to P14.3: long rows of puts and cuts.

func TestLong(t *testing.T) {
	r := rand.New(rand.NewSource(14))
	for _, most := range []int{3, 12, 60} {
		x, m := trie.New[int](), plain[int]{}
		for i := range 3000 {
			p := some(r)
			if l := x.All(); len(l) > 0 && r.Intn(2*most) < len(m)+most/2 {
				p = l[r.Intn(len(l))]
				if r.Intn(8) == 0 {
					put(t, x, m, p, i)
				}
				cut(t, x, m, p)
			} else {
				put(t, x, m, p, i)
			}
			if i%7 == 0 {
				same(t, x, m, []api.Prefix{p, some(r), some(r), at(p.Addr&mask(p.Len/2), p.Len/2), at(0, 0)})
			}
		}
		for _, p := range x.All() {
			cut(t, x, m, p)
			same(t, x, m, []api.Prefix{p})
		}
	}
}

// P14.1 to P14.3: as many as there may be of anything, and more.

func TestMany(t *testing.T) {
	const n = 1 << 15
	x := trie.New[int]()
	for i := range n {
		x.Put(at(uint32(i*7919%n)<<8, 24), i*7919%n)
	}
	l := x.All()
	if x.Len() != n || x.Nodes() != 2*n-1 || !x.Check() || len(l) != n {
		t.Fatal(x.Len(), x.Nodes())
	}
	for i, p := range l {
		if p != at(uint32(i)<<8, 24) {
			t.Fatal(i, p)
		}
		if q, v, ok := x.Longest(uint32(i)<<8 | 0xff); q != p || v != i || !ok {
			t.Fatal(i, q, v, ok)
		}
	}
	for k := 10; k <= 24; k++ {
		if c := x.Count(at(0, k)); c != 1<<(24-k) {
			t.Fatal(k, c)
		}
	}
	if c := x.Count(at(0, 9)); c != n || x.Count(at(1<<31, 1)) != 0 || x.Count(at(0, 25)) != 0 {
		t.Fatal(c)
	}
	for i := range n {
		if v, ok := x.Cut(at(uint32(i*31%n)<<8, 24)); v != i*31%n || !ok {
			t.Fatal(i, v, ok)
		}
	}
	if x.Len() != 0 || x.Nodes() != 0 || !x.Check() {
		t.Fatal(x.Len(), x.Nodes())
	}
}
