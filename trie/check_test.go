package trie

import (
	"testing"

	"confluence/api"
)

// leaf is a node of a prefix that was put.
func leaf(addr uint32, n int) *node[int] {
	return &node[int]{at: api.Prefix{Addr: addr, Len: n}, held: true, count: 1}
}

// fork is a node of a prefix that was not put.
func fork(addr uint32, n int, low, high *node[int]) *node[int] {
	return &node[int]{at: api.Prefix{Addr: addr, Len: n}, kids: [2]*node[int]{low, high}, count: size(low) + size(high)}
}

// sample is a tree of five nodes: 0.0.0.0/0 has both children; 10.0.0.0/14 was not put, and has two.
func sample() *Trie[int] {
	root := leaf(0, 0)
	root.count = 4
	root.kids = [2]*node[int]{fork(0x0a000000, 14, leaf(0x0a010000, 16), leaf(0x0a020000, 16)), leaf(0xc0000000, 8)}
	return &Trie[int]{root: root}
}

// P14.3: Check sees each thing that can be wrong of a tree, alone.

func TestCheck(t *testing.T) {
	if !sample().Check() || sample().Nodes() != 5 || sample().Len() != 4 {
		t.Fatal("the sample is as it should be")
	}
	if !(&Trie[int]{}).Check() || !New[string]().Check() || !(&Trie[int]{root: leaf(0, 32)}).Check() {
		t.Error("no node, or one")
	}
	if (*Trie[int])(nil).Check() {
		t.Error("nil")
	}
	for name, spoil := range map[string]func(root, fork, low, high, other *node[int]){
		"a count of a leaf too small":            func(r, f, l, h, o *node[int]) { o.count, r.count = 0, 3 },
		"a count of a leaf too great":            func(r, f, l, h, o *node[int]) { h.count, f.count, r.count = 2, 3, 5 },
		"a count of a fork too small":            func(r, f, l, h, o *node[int]) { f.count, r.count = 1, 3 },
		"a count of a fork too great":            func(r, f, l, h, o *node[int]) { f.count, r.count = 3, 5 },
		"a count of the root too small":          func(r, f, l, h, o *node[int]) { r.count-- },
		"a count of the root too great":          func(r, f, l, h, o *node[int]) { r.count++ },
		"a count below 0":                        func(r, f, l, h, o *node[int]) { r.count = -4 },
		"a leaf that was not put":                func(r, f, l, h, o *node[int]) { o.held, o.count, r.count = false, 0, 3 },
		"a leaf deep down that was not put":      func(r, f, l, h, o *node[int]) { h.held, h.count, f.count, r.count = false, 0, 1, 3 },
		"a fork with a low child alone":          func(r, f, l, h, o *node[int]) { f.kids[1], f.count, r.count = nil, 1, 3 },
		"a fork with a high child alone":         func(r, f, l, h, o *node[int]) { f.kids[0], f.count, r.count = nil, 1, 3 },
		"a fork without children":                func(r, f, l, h, o *node[int]) { f.kids, f.count, r.count = [2]*node[int]{}, 0, 2 },
		"children that changed sides":            func(r, f, l, h, o *node[int]) { f.kids = [2]*node[int]{h, l} },
		"children of the root that changed":      func(r, f, l, h, o *node[int]) { r.kids = [2]*node[int]{o, f} },
		"one child on both sides":                func(r, f, l, h, o *node[int]) { f.kids[1] = l },
		"both children on the low side":          func(r, f, l, h, o *node[int]) { h.at = api.Prefix{Addr: 0x0a000000, Len: 16} },
		"both children on the high side":         func(r, f, l, h, o *node[int]) { l.at = api.Prefix{Addr: 0x0a030000, Len: 16} },
		"a child outside its node":               func(r, f, l, h, o *node[int]) { h.at = api.Prefix{Addr: 0x0b020000, Len: 16} },
		"a child outside, on the low side":       func(r, f, l, h, o *node[int]) { l.at = api.Prefix{Addr: 0x0b010000, Len: 16} },
		"a child with its node's prefix":         func(r, f, l, h, o *node[int]) { l.at = f.at },
		"a child around its node":                func(r, f, l, h, o *node[int]) { l.at = api.Prefix{Addr: 0x0a000000, Len: 8} },
		"a child that is not good":               func(r, f, l, h, o *node[int]) { l.at.Addr++ },
		"a child with a length that there isn't": func(r, f, l, h, o *node[int]) { o.at = api.Prefix{Addr: 1 << 31, Len: 33} },
		"a root with a length that there isn't":  func(r, f, l, h, o *node[int]) { r.at.Len = -1 },
		"a root that is not good":                func(r, f, l, h, o *node[int]) { r.at.Addr = 1 },
		"a node below itself":                    func(r, f, l, h, o *node[int]) { f.kids[0] = f },
		"the root at the end":                    func(r, f, l, h, o *node[int]) { l.kids[0] = r },
	} {
		x := sample()
		r := x.root
		f, o := r.kids[0], r.kids[1]
		spoil(r, f, f.kids[0], f.kids[1], o)
		if x.Check() {
			t.Error(name)
		}
	}
	for _, p := range []api.Prefix{{Len: 33}, {Len: -1}, {Addr: 1, Len: 31}} {
		one := leaf(p.Addr, p.Len)
		if (&Trie[int]{root: one}).Check() {
			t.Error(p)
		}
	}
}

// P14.1: a node that stays without its prefix keeps no value.

func TestCutKeepsNoValue(t *testing.T) {
	x := New[*int]()
	p := api.Prefix{Addr: 0x0a000000, Len: 8}
	for i := range 2 {
		x.Put(api.Prefix{Addr: p.Addr | uint32(i)<<23, Len: 9}, new(int))
	}
	x.Put(p, new(int))
	x.Cut(p)
	each(x.root, func(n *node[*int]) {
		if n.held != (n.v != nil) {
			t.Error(n.at, n.held, n.v)
		}
	})
	if x.root.at != p || x.root.held {
		t.Error(x.root.at)
	}
}
