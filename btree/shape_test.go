package btree

import (
	"strconv"
	"strings"
	"testing"

	"dunnage/api"
)

// holds goes through a tree: each branch has the least key of each kid, all leaves are equally deep, keys rise, and each node but a root has as many parts as it should (P17.4 hangs on it). It is how deep the tree is, and how many keys it has.
func holds(t *testing.T, f *Forest, at int, isRoot bool) (int, int) {
	t.Helper()
	n := f.node(at)
	if len(n.parts) > mostParts || !isRoot && n.isFew() || len(n.parts) < 1 || !n.isLeaf() && len(n.parts) < 2 {
		t.Fatalf("a node of the kind %d has %d parts", n.kind, len(n.parts))
	}
	deep, count := 0, 0
	for i, p := range n.parts {
		if i > 0 && p.key <= n.parts[i-1].key {
			t.Fatalf("a node's key %q behind %q", p.key, n.parts[i-1].key)
		}
		if n.isLeaf() {
			count++
			continue
		}
		if least := f.node(p.kid).parts[0].key; least != p.key {
			t.Fatalf("a branch has %q for a kid whose least key is %q", p.key, least)
		}
		d, c := holds(t, f, p.kid, false)
		if i > 0 && d != deep {
			t.Fatalf("kids that are %d and %d deep", deep, d)
		}
		deep, count = d, count+c
	}
	return deep + 1, count
}

// The trees are as they should be behind whatever is put and deleted.
func TestShape(t *testing.T) {
	for _, step := range []int{1, 100, 37, 64} {
		f, e := New(1 << 17)
		if e != api.OK {
			t.Fatalf("P17.1: New: error %d", e)
		}
		for i := range 4 * 101 {
			k := strconv.Itoa(1000 + i*step%101)
			if i/101%2 == 0 {
				e = f.Put(0, k, api.Ref{Serial: 1, At: i})
			} else {
				_, e = f.Delete(0, k)
			}
			if e != api.OK {
				t.Fatalf("P17.1: the change %d: error %d", i, e)
			}
			if at := f.root(0); at == none != (f.Len(0) == 0) {
				t.Fatalf("a root at %d of %d keys", at, f.Len(0))
			} else if at != none {
				if _, count := holds(t, f, at, true); count != f.Len(0) {
					t.Fatalf("P17.2: Len: %d of %d keys", f.Len(0), count)
				}
			}
		}
	}
}

// A tree is as shallow as its nodes' parts allow: the way down is short.
func TestDepth(t *testing.T) {
	f, _ := New(api.MaxWords)
	for i := range 5000 {
		f.Put(0, strconv.Itoa(100000+i*7%5000), api.Ref{Serial: 1})
	}
	if deep, count := holds(t, f, f.root(0), true); count != 5000 || deep > 6 {
		t.Errorf("5000 keys: %d, %d deep", count, deep)
	}
}

// A node that is made is read as it was.
func TestNodesAsWords(t *testing.T) {
	for n := range api.MaxKey + 1 {
		leaf := node{leafKind, []part{{key: strings.Repeat("\xff", n), ref: api.Ref{Serial: 1<<64 - 1, At: api.MaxSectors, Len: api.MaxValue}}, {key: strings.Repeat("a", n), ref: api.Ref{Serial: 1 << 32}}}}
		branch := node{branchKind, []part{{key: strings.Repeat("\x00", n), kid: 7}, {key: strings.Repeat("ab", n/2), kid: api.MaxWords - 1}}}
		for _, x := range []node{leaf, branch} {
			y := nodeOf(api.Object{Kind: x.kind, Ptrs: x.kids(), Data: x.words()})
			if y.kind != x.kind || len(y.parts) != 2 || y.parts[0] != x.parts[0] || y.parts[1] != x.parts[1] {
				t.Errorf("a node as words: %v; was %v", y, x)
			}
		}
	}
}
