package btree_test

import (
	"testing"

	"dunnage/api"
)

// Each version is copied to each one, and changed there: no other has changed.
func TestCopyOfEachToEach(t *testing.T) {
	for from := range rootsMost {
		for to := range rootsMost {
			p := newPair(t, 1<<14)
			for i := range 20 {
				p.put(t, from, key(i), ref(i))
				p.put(t, (from+1)%rootsMost, key(i+10), ref(i))
			}
			p.copy(t, from, to)
			p.list(t, from)
			p.list(t, to)
			p.put(t, to, key(5), ref(500))
			p.put(t, to, "new", ref(501))
			p.delete(t, to, key(6))
			for root := range rootsMost {
				p.list(t, root)
			}
			p.drop(t, from)
			for root := range rootsMost {
				p.list(t, root)
			}
			if from == to || from%5 == 0 && to%5 == 0 {
				p.same(t)
			}
		}
	}
}

// A version that is copied onto itself stays as it is, and no word is used for it.
func TestCopyOntoItself(t *testing.T) {
	p := some(t, 8192)
	used := p.f.Used()
	for root := range rootsMost {
		p.copy(t, root, root)
	}
	if p.f.Used() != used {
		t.Errorf("P17.2: versions copied onto themselves: %d words used, then %d", used, p.f.Used())
	}
	p.same(t)
}

// A copy of a copy is as the first one was then, whatever was done with those between.
func TestCopyOfCopies(t *testing.T) {
	p := newPair(t, 1<<16)
	for root := range rootsMost {
		if root > 0 {
			p.copy(t, root-1, root)
		}
		for i := range 20 {
			p.put(t, root, key(root*7+i), ref(root*100+i))
		}
		p.delete(t, root, key(root*5))
	}
	p.same(t)
	p.copy(t, 3, 9)
	p.copy(t, 9, 0)
	p.drop(t, 3)
	p.delete(t, 9, key(21))
	p.same(t)
	p.pack(t)
	p.same(t)
}

// What has no keys is copied, too: over what has some.
func TestCopyOfNothing(t *testing.T) {
	p := some(t, 8192)
	p.copy(t, 8, 0)
	p.copy(t, 8, 7)
	p.same(t)
	p.put(t, 0, "again", ref(1))
	p.same(t)
}

func TestDrop(t *testing.T) {
	p := some(t, 8192)
	for _, root := range []int{7, 7, 0, 0, 3, 15, 1, 4} {
		p.drop(t, root)
		if p.f.Len(root) != 0 {
			t.Errorf("P17.2: %d keys of a version that was dropped", p.f.Len(root))
		}
		p.same(t)
	}
	p.pack(t)
	if p.f.Used() != 1 || len(p.f.Refs()) != 0 {
		t.Errorf("P17.2: all versions are dropped: %d words, refs %v", p.f.Used(), p.f.Refs())
	}
	for root := range rootsMost {
		p.put(t, root, key(root), ref(root))
	}
	p.same(t)
}

// Copies need no room: a full forest takes them, and gives room back where versions are dropped.
func TestCopyWithoutRoom(t *testing.T) {
	p := full(t)
	p.f.Pack()
	used := p.f.Used()
	for to := 5; to < 15; to++ {
		p.copy(t, 1, to)
	}
	p.same(t)
	if p.f.Used() != used {
		t.Errorf("P17.2: ten copies: %d words used, then %d", used, p.f.Used())
	}
	for root := range 15 {
		p.drop(t, root)
	}
	p.same(t)
	p.put(t, 1, long(5000), api.Ref{Serial: 1})
	p.same(t)
}
