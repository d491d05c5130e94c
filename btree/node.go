package btree

import (
	"slices"
	"sort"

	"dunnage/api"
	"dunnage/keys"
)

// Kinds of nodes, which are those of their objects.
const (
	leafKind   = 0
	branchKind = 1
)

// How many parts a node has that is not a root, at least and at most. What is too much for one node is enough for two.
const (
	leastParts = 4
	mostParts  = 8
)

// part is what a node says of a key: a leaf its ref, a branch the place of the kid whose least key it is.
type part struct {
	key string
	ref api.Ref
	kid int
}

// node is a leaf or a branch of a tree: parts by rising keys.
type node struct {
	kind  int
	parts []part
}

// placed is a node, and the place of its object.
type placed struct {
	node
	at int
}

// step is a branch on a way down, and which of its parts leads on.
type step struct {
	node
	to int
}

func (n node) isLeaf() bool { return n.kind == leafKind }

func (n node) isFew() bool { return len(n.parts) < leastParts }

// from is the number of the first part whose key is key or above.
func (n node) from(key string) int {
	return sort.Search(len(n.parts), func(i int) bool { return !keys.Less(n.parts[i].key, key) })
}

// span is from which part on up to which one the key stands: one part, or none.
func (n node) span(key string) (int, int) {
	lo := n.from(key)
	if lo < len(n.parts) && n.parts[lo].key == key {
		return lo, lo + 1
	}
	return lo, lo
}

// replaced is the node with other parts in place of those from lo on, ahead of hi.
func (n node) replaced(lo, hi int, by ...part) node {
	return node{n.kind, slices.Concat(n.parts[:lo], by, n.parts[hi:])}
}

// joined is the node, and the parts of the one behind it.
func (n node) joined(next node) node {
	return node{n.kind, slices.Concat(n.parts, next.parts)}
}

// share is how many parts each node gets, where the parts are laid: all, or half of them, if they are too many for one.
func (n node) share() int {
	if len(n.parts) <= mostParts {
		return mostParts
	}
	return (len(n.parts) + 1) / 2
}

// kids is the places that a branch points to.
func (n node) kids() []int {
	var l []int
	for _, p := range n.parts {
		if !n.isLeaf() {
			l = append(l, p.kid)
		}
	}
	return l
}

// patch takes all refs through a move: was there one to be taken?
func (n node) patch(m api.Move) bool {
	some := false
	for i, p := range n.parts {
		if p.ref.Serial == m.Serial && p.ref.At == m.From {
			n.parts[i].ref.At = m.To
			some = true
		}
	}
	return some
}
