package btree

import (
	"iter"
	"slices"

	"dunnage/api"
	"dunnage/keys"
)

const (
	none  = 0 // the root of an empty version's tree
	tries = 2 // a change is tried as the arena is, and packed
)

// root is the place of a version's root: none, too, of what is no version, or no forest.
func (f *Forest) root(root int) int {
	if f.isNone() {
		return none
	}
	return f.arena.Root(root)
}

// roots is the places of all versions' roots.
func (f *Forest) roots() []int {
	var l []int
	for root := range api.MaxRoots {
		l = append(l, f.root(root))
	}
	return l
}

// plant gives a version another tree, of so many keys. (Its root is one of the forest's nodes: there is nothing that the arena refuses.)
func (f *Forest) plant(root, at, count int) {
	f.arena.SetRoot(root, at)
	f.lens[root] = count
}

// node is what stands at a place: a leaf without parts, where nothing does.
func (f *Forest) node(at int) node {
	if at == none {
		return node{kind: leafKind}
	}
	o, _ := f.arena.At(at)
	return nodeOf(o)
}

// down goes to the leaf in which a key of a version stands, or would stand; and is the branches on the way, and the leaf.
func (f *Forest) down(root int, key string) ([]step, node) {
	var way []step
	n := f.node(f.root(root))
down:
	for !n.isLeaf() {
		for i, p := range slices.Backward(n.parts) {
			if !keys.Less(key, p.key) {
				way = append(way, step{n, i})
				n = f.node(p.kid)
				continue down
			}
		}
		way = append(way, step{n, 0}) // the key is below all that the version has
		n = f.node(n.parts[0].kid)
	}
	return way, n
}

// leaves tells each leaf of these trees once; those of one tree by rising keys.
func (f *Forest) leaves(roots ...int) iter.Seq[placed] {
	return func(yield func(placed) bool) {
		seen := map[int]struct{}{none: {}}
		open := slices.Clone(roots)
		for len(open) > 0 {
			last := len(open) - 1
			at := open[last]
			open = open[:last]
			if _, is := seen[at]; is {
				continue
			}
			seen[at] = struct{}{}
			n := f.node(at)
			if n.isLeaf() && !yield(placed{n, at}) {
				return
			}
			kids := n.kids()
			slices.Reverse(kids)
			open = append(open, kids...)
		}
	}
}

// rewrite writes a node anew, which has as many words as it had.
func (f *Forest) rewrite(n placed) {
	for i, w := range n.words() {
		f.arena.Set(n.at, i, w)
	}
}

// change puts a part in place of a version's key, or nothing. Without room the arena is packed: behind the first try to make room for the next, behind the last to be rid of what it has left.
func (f *Forest) change(root int, key string, by ...part) api.Errno {
	for range tries {
		way, was := f.down(root, key)
		lo, hi := was.span(key)
		is := was.replaced(lo, hi, by...)
		at, e := f.grow(way, is)
		if e == api.OK {
			f.plant(root, at, f.lens[root]+len(is.parts)-len(was.parts))
			return api.OK
		}
		f.arena.Pack()
	}
	return api.ErrFull
}

// grow makes a leaf, and anew the branches on the way to it, from below; and is the place of the new tree's root.
func (f *Forest) grow(way []step, n node) (int, api.Errno) {
	for _, s := range slices.Backward(way) {
		lo, hi := s.to, s.to+1
		if n.isFew() {
			n, lo, hi = f.widen(s, n)
		}
		made, e := f.lay(n)
		if e != api.OK {
			return none, e
		}
		n = s.replaced(lo, hi, made...)
	}
	return f.crown(n)
}

// widen joins a node of too few parts with one beside it, and is from which part of their branch on up to which one both stand. (Each branch has two kids at least.)
func (f *Forest) widen(s step, n node) (node, int, int) {
	if next := s.to + 1; next < len(s.parts) {
		return n.joined(f.node(s.parts[next].kid)), s.to, next + 1
	}
	last := s.to - 1
	return f.node(s.parts[last].kid).joined(n), last, s.to + 1
}

// crown makes branches over a node until one part leads to all; and is where to.
func (f *Forest) crown(n node) (int, api.Errno) {
	if len(n.parts) == 0 {
		return none, api.OK
	}
	for n.isLeaf() || len(n.parts) > 1 {
		made, e := f.lay(n)
		if e != api.OK {
			return none, e
		}
		n = node{branchKind, made}
	}
	return n.parts[0].kid, api.OK
}

// lay makes an object of a node, or two, if its parts are too many for one; and is what their branch has of them.
func (f *Forest) lay(n node) ([]part, api.Errno) {
	var made []part
	for l := range slices.Chunk(n.parts, n.share()) {
		half := node{n.kind, l}
		at, e := f.arena.Make(half.kind, half.kids(), half.words())
		if e != api.OK {
			return nil, e
		}
		made = append(made, part{key: l[0].key, kid: at})
	}
	return made, api.OK
}
