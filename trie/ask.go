package trie

import (
	"confluence/api"
	"confluence/prefix"
)

// Above is the prefixes around p, the shortest first.
func (t *Trie[T]) Above(p api.Prefix) []api.Prefix {
	var l []api.Prefix
	over(t.top(), p, func(n *node[T]) {
		if n.held && n.at != p {
			l = append(l, n.at)
		}
	})
	return l
}

// Below is the prefixes within p, in order.
func (t *Trie[T]) Below(p api.Prefix) []api.Prefix {
	var l []api.Prefix
	each(under(t.top(), p), func(n *node[T]) {
		if n.held && n.at != p {
			l = append(l, n.at)
		}
	})
	return l
}

// All is all prefixes, in order.
func (t *Trie[T]) All() []api.Prefix {
	l := make([]api.Prefix, 0, t.Len())
	each(t.top(), func(n *node[T]) {
		if n.held {
			l = append(l, n.at)
		}
	})
	return l
}

// Len is how many prefixes there are.
func (t *Trie[T]) Len() int {
	return size(t.top())
}

// Count is how many prefixes p covers, p among them.
func (t *Trie[T]) Count(p api.Prefix) int {
	return size(under(t.top(), p))
}

// Nodes is how many nodes the tree has.
func (t *Trie[T]) Nodes() int {
	many := 0
	each(t.top(), func(*node[T]) { many++ })
	return many
}

// Check tells whether the tree is as it should be: each node has a prefix that was put or two children, each child lies within its node and on its side, and the counts are right.
func (t *Trie[T]) Check() bool {
	if t == nil {
		return false
	}
	return t.root == nil || prefix.Good(t.root.at) && sound(t.root)
}
