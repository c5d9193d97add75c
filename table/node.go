package table

import (
	"strings"

	"packtrain/api"
)

// node is a node of a tree; a tree without nodes is nil. It is not written
// after it was made, so that any number of trees may have it.
type node struct {
	key, value  string
	rank        uint32
	size        int // of its tree: kept, because else all nodes would have to be counted
	left, right *node
}

// The chapter's numbers for ranks.
const (
	firstRank  uint32 = 2166136261
	rankFactor uint32 = 16777619
)

// Rank returns the rank of a key.
func Rank(key string) uint32 {
	rank := firstRank
	for _, c := range []byte(key) {
		rank = (rank ^ uint32(c)) * rankFactor
	}
	return rank
}

// leaf returns a node without subtrees. It has texts of its own, because what
// is passed by a caller is not kept.
func leaf(key, value string) *node {
	return &node{key: strings.Clone(key), value: strings.Clone(value), rank: Rank(key), size: 1}
}

// with returns a copy of n with these subtrees.
func (n node) with(left, right *node) *node {
	n.left, n.right = left, right
	n.size = left.count() + 1 + right.count()
	return &n
}

// count returns the number of nodes of a tree.
func (n *node) count() int {
	if n == nil {
		return 0
	}
	return n.size
}

// above tells whether n has its place above other in each tree that has both.
func (n *node) above(other *node) bool {
	return n.rank > other.rank || n.rank == other.rank && n.key < other.key
}

// find returns the node with the key, and nil if there is none.
func (n *node) find(key string) *node {
	for n != nil && n.key != key {
		if key < n.key {
			n = n.left
		} else {
			n = n.right
		}
	}
	return n
}

// put returns the tree with a leaf in it, in the place of the node with its
// key if there is one.
func (n *node) put(leaf *node) *node {
	switch {
	// A node with the key of the leaf would have its rank, too, and be above
	// all nodes that the leaf is above: so none of them has the key.
	case n == nil || leaf.above(n):
		return leaf.with(n.cut(leaf.key))
	case leaf.key < n.key:
		return n.with(n.left.put(leaf), n.right)
	case leaf.key > n.key:
		return n.with(n.left, n.right.put(leaf))
	}
	return leaf.with(n.left, n.right)
}

// drop returns the tree without the node with the key, which it must have.
func (n *node) drop(key string) *node {
	switch {
	case key < n.key:
		return n.with(n.left.drop(key), n.right)
	case key > n.key:
		return n.with(n.left, n.right.drop(key))
	}
	return join(n.left, n.right)
}

// cut returns the tree of the nodes whose keys are below key, and that of the
// others.
func (n *node) cut(key string) (below, others *node) {
	switch {
	case n == nil:
		return nil, nil
	case n.key < key:
		below, others = n.right.cut(key)
		return n.with(n.left, below), others
	}
	below, others = n.left.cut(key)
	return below, n.with(others, n.right)
}

// join returns the tree of two, where the keys of the second one are above all
// of the first one.
func join(low, high *node) *node {
	switch {
	case low == nil:
		return high
	case high == nil:
		return low
	case low.above(high):
		return low.with(low.left, join(low.right, high))
	}
	return high.with(join(low, high.left), high.right)
}

// pair returns the key and the value of n, as texts of the caller's own.
func (n *node) pair() api.Pair {
	return api.Pair{Key: strings.Clone(n.key), Value: strings.Clone(n.value)}
}

// gone returns the key of n as one that is removed.
func (n *node) gone() api.Pair {
	return api.Pair{Key: strings.Clone(n.key), Gone: true}
}
