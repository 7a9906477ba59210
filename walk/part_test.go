package walk_test

import (
	"math"
	"slices"
	"testing"

	"confluence/api"
	"confluence/walk"
)

// part is a prefix of which only some lengths are looked at, so that all sets of its places can be tried; a place is a prefix at that depth.
type part struct {
	top   api.Prefix
	depth int
}

// parts are parts at both ends of all addresses, of all of them, and somewhere between.
func parts(depth int) []part {
	n := 32 - depth
	return []part{
		{at(0, 0), depth},
		{at(0, n), depth},
		{at(math.MaxUint32>>depth<<depth, n), depth},
		{at(0x0a000000, 12), depth},
	}
}

// all is the prefixes of a part, the longest first.
func (u part) all() []api.Prefix {
	var l []api.Prefix
	for d := u.depth; d >= 0; d-- {
		for i := range uint64(1) << d {
			l = append(l, at(uint32(first(u.top)+i<<(32-u.top.Len-d)), u.top.Len+d))
		}
	}
	return l
}

// places is the prefixes of the places that a set has, one bit each.
func (u part) places(set int) []api.Prefix {
	var l []api.Prefix
	for i, p := range u.all()[:1<<u.depth] {
		if set>>i&1 == 1 {
			l = append(l, p)
		}
	}
	return l
}

// set is the places that a list has; ok is false where it has something else.
func (u part) set(l []api.Prefix) (set int, ok bool) {
	places := u.all()[:1<<u.depth]
	for _, p := range l {
		if p.Len < u.top.Len || p.Len > u.top.Len+u.depth || !isGood(p) || !holds(u.top, p) {
			return 0, false
		}
		for i, q := range places {
			if holds(p, q) {
				set |= 1 << i
			}
		}
	}
	return set, true
}

// fewest is how many prefixes each set takes at the least, by adding one more to all sets that take fewer.
func (u part) fewest() []int {
	var masks []int
	for _, p := range u.all() {
		m, _ := u.set([]api.Prefix{p})
		masks = append(masks, m)
	}
	takes := make([]int, 1<<(1<<u.depth))
	for i := range takes {
		takes[i] = math.MaxInt
	}
	takes[0] = 0
	now := []int{0}
	for many := 1; len(now) > 0; many++ {
		var next []int
		for _, s := range now {
			for _, m := range masks {
				if takes[s|m] > many {
					takes[s|m] = many
					next = append(next, s|m)
				}
			}
		}
		now = next
	}
	return takes
}

// inOrder tells whether a list is in order and has nothing twice.
func inOrder(l []api.Prefix) bool {
	for i := range l {
		if i > 0 && before(l[i-1], l[i]) >= 0 {
			return false
		}
	}
	return true
}

// small reports where a list has other places, or more prefixes than it takes, or is not in order.
func (u part) small(t *testing.T, takes []int, l []api.Prefix, want int) {
	t.Helper()
	if set, ok := u.set(l); !ok || set != want || len(l) != takes[want] || !inOrder(l) {
		t.Fatalf("%v: %v for the places %b, with %d prefixes", u.top, l, want, takes[want])
	}
}

// P15.1: no fewer prefixes would do, for any set of sixteen places.

func TestFewest(t *testing.T) {
	for k, u := range parts(4) {
		takes := u.fewest()
		most := slices.Max(takes)
		if most != 8 {
			t.Fatal(most)
		}
		// All sets of the first part, and every seventh one of the others.
		for set := 0; set < len(takes); set += 1 + 6*min(k, 1) {
			l := u.places(set)
			u.small(t, takes, walk.Merge(l...), set)
			u.small(t, takes, walk.Minus(u.top, l...), len(takes)-1-set)
			u.small(t, takes, walk.Both([]api.Prefix{u.top}, l), set)
		}
	}
}

// The fewest prefixes of any two sets of eight places, where the places are given one by one or merged.
func TestFewestPairs(t *testing.T) {
	for _, u := range parts(3)[:2] {
		takes := u.fewest()
		for a := range takes {
			for b := range takes {
				l, m := u.places(a), u.places(b)
				u.small(t, takes, walk.Both(l, m), a&b)
				u.small(t, takes, walk.Both(walk.Merge(l...), m), a&b)
				u.small(t, takes, walk.Merge(append(l, m...)...), a|b)
			}
		}
	}
}

// The fewest prefixes of each run of sixteen places.
func TestFewestRanges(t *testing.T) {
	for _, u := range parts(4)[1:3] {
		takes := u.fewest()
		a, _, _ := walk.Ends(u.top)
		for i := range uint32(16) {
			for j := range uint32(16) {
				set := 0
				for k := i; k <= j; k++ {
					set |= 1 << k
				}
				u.small(t, takes, walk.Range(a+i, a+j), set)
			}
		}
	}
}

// P15.1 to P15.3: all sets of the fifteen prefixes of a part, in an order of their own.

func TestPartSets(t *testing.T) {
	u := parts(3)[2]
	takes, pool := u.fewest(), u.all()
	for bits := range 1 << len(pool) {
		var l []api.Prefix
		for i, p := range pool {
			if bits>>i&1 == 1 {
				l = append(l, p)
			}
		}
		set, _ := u.set(l)
		merged := walk.Merge(l...)
		u.small(t, takes, merged, set)
		same(t, "Merge of the merged", walk.Merge(merged...), merged, l)
		same(t, "Tops", walk.Tops(l...), tops(l), l)
		u.small(t, takes, walk.Minus(u.top, l...), len(takes)-1-set)
		p := pool[bits%len(pool)]
		own, _ := u.set([]api.Prefix{p})
		u.small(t, takes, walk.Minus(p, l...), own&^set)
		u.small(t, takes, walk.Both(l, []api.Prefix{p}), own&set)
	}
}

// rows calls visit with each list of up to n of a pool.
func rows(pool []api.Prefix, n int, visit func(l []api.Prefix)) {
	var grow func(l []api.Prefix)
	grow = func(l []api.Prefix) {
		visit(slices.Clone(l))
		if len(l) == n {
			return
		}
		for _, p := range pool {
			grow(append(slices.Clone(l), p))
		}
	}
	grow(nil)
}

// edge is prefixes around one another, beside one another and apart, and two that are not good.
func edge() []api.Prefix {
	return append(list("0.0.0.0/0", "0.0.0.0/1", "128.0.0.0/1", "0.0.0.0/32", "255.255.255.255/32", "255.255.255.254/32",
		"10.0.0.0/8", "10.0.0.0/9", "10.128.0.0/9", "11.0.0.0/8", "10.64.0.0/10", "10.0.0.1/32"),
		at(0x0a000001, 8), at(0x0a000000, 33))
}

// P15.1: each list of up to three prefixes, and pairs of lists of up to two, against the reckoning.

func TestRows(t *testing.T) {
	rows(edge(), 3, func(l []api.Prefix) {
		lists(t, l)
		for _, p := range edge()[:12] {
			if len(l) < 3 {
				cuts(t, p, l)
			}
		}
	})
	rows(edge(), 2, func(a []api.Prefix) {
		rows(edge(), 1, func(b []api.Prefix) {
			pairs(t, a, b)
			pairs(t, b, a)
		})
	})
}

// P15.1: prefixes that are not good are as if they were not there, in each place.

func TestBad(t *testing.T) {
	l := list("10.0.0.0/9", "10.128.0.0/9", "10.0.0.0/16", "192.168.0.0/16", "0.0.0.0/32", "255.255.255.255/32")
	p := one("10.0.0.0/8")
	for _, b := range bad {
		rows(append(slices.Clone(l[:2]), b), 3, func(l []api.Prefix) { lists(t, l) })
		same(t, "Tops", walk.Tops(b), nil, b)
		same(t, "Merge", walk.Merge(b, b), nil, b)
		same(t, "Minus", walk.Minus(b), nil, b)
		same(t, "Minus", walk.Minus(b, b), nil, b)
		same(t, "Minus", walk.Minus(b, l...), nil, b)
		same(t, "Minus", walk.Minus(p, b), []api.Prefix{p}, b)
		same(t, "Both", walk.Both([]api.Prefix{b}, []api.Prefix{b}), nil, b)
		same(t, "Both", walk.Both([]api.Prefix{b}, l), nil, b)
		same(t, "Both", walk.Both(l, []api.Prefix{b}), nil, b)
		same(t, "Both", walk.Both([]api.Prefix{at(0, 0)}, []api.Prefix{b}), nil, b)
		if n := walk.Span(b); n != 0 {
			t.Error(b, n)
		}
		for i := range len(l) + 1 {
			mixed := slices.Insert(slices.Clone(l), i, b)
			lists(t, mixed)
			cuts(t, p, mixed)
			same(t, "Tops", walk.Tops(mixed...), walk.Tops(l...), mixed)
			same(t, "Merge", walk.Merge(mixed...), walk.Merge(l...), mixed)
			same(t, "Minus", walk.Minus(at(0, 0), mixed...), walk.Minus(at(0, 0), l...), mixed)
			same(t, "Both", walk.Both(mixed, l), walk.Merge(l...), mixed)
			same(t, "Both", walk.Both(l, mixed), walk.Merge(l...), mixed)
			if walk.Span(mixed...) != walk.Span(l...) {
				t.Error(mixed)
			}
		}
	}
	same(t, "Tops", walk.Tops(bad...), nil)
	same(t, "Merge", walk.Merge(bad...), nil)
	same(t, "Minus", walk.Minus(p, bad...), []api.Prefix{p})
	same(t, "Both", walk.Both(bad, bad), nil)
	if n := walk.Span(bad...); n != 0 {
		t.Error(n)
	}
	all := append(append(slices.Clone(bad), l...), bad...)
	lists(t, all)
	pairs(t, all, all)
	cuts(t, at(0, 0), all)
}
