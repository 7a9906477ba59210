package trie

import (
	"confluence/api"
	"confluence/prefix"
)

// width is how many bits an address has.
const width = 32

// node is a prefix that was put, or what two nodes have in common.
type node[T any] struct {
	at    api.Prefix
	v     T
	held  bool        // held tells whether the prefix was put.
	count int         // count is how many prefixes that were put stand here and below.
	kids  [2]*node[T] // kids are the nodes below: of the lower half, and of the higher one.
}

// kid is the place below n where a longer prefix within its own belongs.
func (n *node[T]) kid(p api.Prefix) **node[T] {
	return &n.kids[n.side(p)]
}

// side is the half of the node's prefix in which a longer one lies.
func (n *node[T]) side(p api.Prefix) int {
	return prefix.Bit(p.Addr, n.at.Len)
}

// size is how many prefixes that were put stand at n and below; n may be nil.
func size[T any](n *node[T]) int {
	if n == nil {
		return 0
	}
	return n.count
}

// over visits the nodes at n and below whose prefixes cover p, from n on down.
func over[T any](n *node[T], p api.Prefix, visit func(*node[T])) {
	for n != nil && prefix.Covers(n.at, p) {
		visit(n)
		n = *n.kid(p)
	}
}

// under is the highest of the nodes at n and below whose prefixes p covers.
func under[T any](n *node[T], p api.Prefix) *node[T] {
	for n != nil && prefix.Within(p, n.at) {
		n = *n.kid(p)
	}
	if n == nil || !prefix.Covers(p, n.at) {
		return nil
	}
	return n
}

// each visits n and all nodes below it, in the order of their prefixes.
func each[T any](n *node[T], visit func(*node[T])) {
	// The nodes that wait hang from nodes that lie within one another, and each of these has another length below width.
	var waiting [width]*node[T]
	many := 0
down:
	for n != nil {
		visit(n)
		if high := n.kids[1]; high != nil {
			waiting[many] = high
			many++
		}
		n = n.kids[0]
	}
	if many > 0 {
		many--
		n = waiting[many]
		goto down
	}
}

// insert hangs up a node with p where one with another prefix hangs, or none. The other one comes below it, or beside it below a node of what both have in common.
func insert[T any](here **node[T], p api.Prefix) *node[T] {
	fresh, other := &node[T]{at: p}, *here
	if other == nil {
		*here = fresh
		return fresh
	}
	top := fresh
	if both := prefix.Common(p, other.at); both != p {
		top = &node[T]{at: both}
		*top.kid(p) = fresh
	}
	*top.kid(other.at) = other
	top.count = other.count
	*here = top
	return fresh
}

// drop leaves a node without its prefix, and lets go of the value.
func drop[T any](n *node[T]) {
	var none T
	n.v, n.held = none, false
}

// tidy takes a node away that has neither a prefix that was put nor two nodes below it; what is below it comes to its place.
func tidy[T any](here **node[T]) {
	n := *here
	low, high := n.kids[0], n.kids[1]
	switch {
	case n.held:
	case low == nil:
		*here = high
	case high == nil:
		*here = low
	}
}

// sound tells whether n and all nodes below it are as they should be.
func sound[T any](n *node[T]) bool {
	count, many := 0, 0
	if n.held {
		count = 1
	}
	for side, kid := range n.kids {
		if kid == nil {
			continue
		}
		// Where a child does not lie within its node, going down need not end.
		if !prefix.Within(kid.at, n.at) || n.side(kid.at) != side || !sound(kid) {
			return false
		}
		count += kid.count
		many++
	}
	return n.count == count && (n.held || many == len(n.kids))
}
