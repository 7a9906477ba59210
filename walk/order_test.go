package walk_test

import (
	"encoding/binary"
	"math/rand"
	"slices"
	"testing"

	"confluence/api"
	"confluence/walk"
)

// some is a prefix near others, or anywhere.
func some(r *rand.Rand) api.Prefix {
	n, a := r.Intn(33), r.Uint32()
	switch r.Intn(4) {
	case 0:
		n, a = 24+r.Intn(9), 0x0a000000|a&0xff
	case 1:
		n, a = 26+r.Intn(7), 0xffffffc0|a
	case 2:
		n = r.Intn(6)
	}
	return at(uint32(uint64(a)>>(32-n)<<(32-n)), n)
}

// many is so many prefixes, some of which are not good.
func many(r *rand.Rand, n int) []api.Prefix {
	var l []api.Prefix
	for range n {
		p := some(r)
		switch r.Intn(12) {
		case 0:
			p = bad[r.Intn(len(bad))]
		case 1:
			l = append(l, p)
		}
		l = append(l, p)
	}
	return l
}

// parted holds what is left of p and what it has together with a list against p: each of its addresses is in just one.
func parted(t *testing.T, p api.Prefix, l []api.Prefix) {
	t.Helper()
	left, shared := walk.Minus(p, l...), walk.Both([]api.Prefix{p}, l)
	same(t, "Both of what is left and what is shared", walk.Both(left, shared), nil, p, l)
	same(t, "Merge of what is left and what is shared", walk.Merge(append(slices.Clone(left), shared...)...), []api.Prefix{p}, p, l)
	if walk.Span(left...)+walk.Span(shared...) != walk.Span(p) {
		t.Errorf("%v of %v: %v and %v", p, l, left, shared)
	}
	same(t, "Both of what is left and the list", walk.Both(left, l), nil, p, l)
	same(t, "Minus of what is shared", walk.Minus(p, shared...), left, p, l)
	same(t, "Minus of what is left", walk.Minus(p, left...), shared, p, l)
}

// P15.1, P15.3: lists of many lengths, against the reckoning and each other, in more orders than one.

func TestMixed(t *testing.T) {
	r := rand.New(rand.NewSource(15))
	for range 1500 {
		a, b, p := many(r, r.Intn(30)), many(r, r.Intn(30)), some(r)
		lists(t, a)
		pairs(t, a, b)
		cuts(t, p, a)
		parted(t, p, b)
		merged, top, shared, left := walk.Merge(a...), walk.Tops(a...), walk.Both(a, b), walk.Minus(p, a...)
		r.Shuffle(len(a), func(i, j int) { a[i], a[j] = a[j], a[i] })
		r.Shuffle(len(b), func(i, j int) { b[i], b[j] = b[j], b[i] })
		same(t, "Merge", walk.Merge(a...), merged, a)
		same(t, "Merge of the tops", walk.Merge(top...), merged, a)
		same(t, "Tops", walk.Tops(a...), top, a)
		same(t, "Tops of the tops", walk.Tops(top...), top, a)
		same(t, "Tops of the merged", walk.Tops(merged...), merged, a)
		same(t, "Both", walk.Both(a, b), shared, a, b)
		same(t, "Both", walk.Both(b, a), shared, b, a)
		same(t, "Both of the same", walk.Both(a, a), merged, a)
		same(t, "Minus", walk.Minus(p, a...), left, p, a)
		for _, l := range [][]api.Prefix{merged, top, shared, left} {
			if !inOrder(l) {
				t.Error(l)
			}
		}
	}
}

// P15.3: each address of a prefix, one by one.

func TestPartedPlaces(t *testing.T) {
	rows(part{one("10.0.0.8/29"), 3}.all(), 2, func(l []api.Prefix) {
		for _, p := range list("10.0.0.0/28", "10.0.0.8/29", "10.0.0.8/30", "10.0.0.12/30", "10.0.0.15/32") {
			left, shared := walk.Minus(p, l...), walk.Both([]api.Prefix{p}, l)
			for a := first(one("9.255.255.254/31")); a <= last(one("10.0.0.16/31")); a++ {
				own, given := has([]api.Prefix{p}, a), has(l, a)
				if has(left, a) != (own && !given) || has(shared, a) != (own && given) {
					t.Fatal(p, l, a, left, shared)
				}
			}
			parted(t, p, l)
		}
	})
	for _, p := range edge()[:12] {
		rows(edge(), 2, func(l []api.Prefix) { parted(t, p, l) })
	}
}

// P15.1, P15.2: as many prefixes as there may be of anything, and more.

func TestMany(t *testing.T) {
	const n = 1 << 16
	var all, odd []api.Prefix
	for i := range n {
		p := at(uint32(i*40503%n)<<8, 24)
		all = append(all, p, p)
		if p.Addr>>8&1 == 1 {
			odd = append(odd, p)
		}
	}
	top := one("0.0.0.0/8")
	same(t, "Merge", walk.Merge(all...), []api.Prefix{top})
	same(t, "Minus", walk.Minus(top, all...), nil)
	if l := walk.Tops(all...); len(l) != n || !inOrder(l) {
		t.Error(len(l))
	}
	if s := walk.Span(all...); s != n*256 {
		t.Error(s)
	}
	left := walk.Minus(top, odd...)
	if len(left) != n/2 || !inOrder(left) {
		t.Fatal(len(left))
	}
	for i, p := range left {
		if p != at(uint32(2*i)<<8, 24) {
			t.Fatal(i, p)
		}
	}
	slices.SortFunc(odd, before)
	same(t, "Both", walk.Both(all, odd), odd)
	same(t, "Both", walk.Both(left, odd), nil)
	same(t, "Merge", walk.Merge(append(left, odd...)...), []api.Prefix{top})
}

// read is prefixes from bytes, five each: some of them not good, some near others.
func read(b []byte) []api.Prefix {
	var l []api.Prefix
	for ; len(b) >= 5; b = b[5:] {
		p := at(binary.BigEndian.Uint32(b), int(b[4]&63))
		if b[4] >= 64 && p.Len <= 32 {
			p.Addr = uint32(uint64(p.Addr) >> (32 - p.Len) << (32 - p.Len))
		}
		l = append(l, p)
	}
	return l
}

// FuzzWalk parts bytes into two lists, and holds all that is asked of them against the reckoning.
func FuzzWalk(f *testing.F) {
	f.Add([]byte{}, 0)
	f.Add([]byte{10, 0, 0, 0, 8, 10, 0, 0, 0, 9, 10, 128, 0, 0, 9, 0, 0, 0, 0, 0}, 2)
	f.Add([]byte{10, 0, 0, 1, 96, 10, 0, 0, 2, 96, 255, 255, 255, 255, 95, 255, 255, 255, 255, 32, 1, 2, 3, 4, 33}, 3)
	f.Fuzz(func(t *testing.T, b []byte, n int) {
		l := read(b[:min(len(b), 200)])
		n = min(max(n, 0), len(l))
		lists(t, l)
		pairs(t, l[:n], l[n:])
		for i, p := range l[:min(n, 4)] {
			cuts(t, p, l[i+1:])
			if isGood(p) {
				parted(t, p, l[n:])
				ranges(t, p.Addr, uint32(last(p)))
			}
			ranges(t, p.Addr, l[0].Addr)
			if want := []api.Prefix(nil); isGood(p) {
				want = below(p, min(max(n, 0), 8))
				same(t, "Steps", walk.Steps(p, n), want, p, n)
			} else {
				same(t, "Steps", walk.Steps(p, n), want, p, n)
			}
		}
	})
}
