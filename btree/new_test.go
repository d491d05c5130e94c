package btree_test

import (
	"math"
	"testing"

	"dunnage/api"
	"dunnage/btree"
)

// The chapter's example, step by step.
func TestExample(t *testing.T) {
	p := newPair(t, 4096)
	p.put(t, 0, "a", api.Ref{Serial: 1, Len: 5})
	p.copy(t, 0, 1)
	p.put(t, 0, "a", api.Ref{Serial: 2, At: 1, Len: 5})
	if r, is := p.f.Get(1, "a"); r != (api.Ref{Serial: 1, Len: 5}) || !is {
		t.Errorf("P17.2: the example: Get: %v, %v", r, is)
	}
	if k, r, is := p.f.Seek(0, ""); k != "a" || r != (api.Ref{Serial: 2, At: 1, Len: 5}) || !is {
		t.Errorf("P17.2: the example: Seek: %q, %v, %v", k, r, is)
	}
	p.patch(t, api.Move{Serial: 1, From: 0, To: 9, N: 1})
	if r, is := p.f.Get(1, "a"); r != (api.Ref{Serial: 1, At: 9, Len: 5}) || !is {
		t.Errorf("P17.3: the example: Get behind Patch: %v, %v", r, is)
	}
	if l := p.f.Refs(); len(l) != 2 || l[0] != (api.Ref{Serial: 1, At: 9, Len: 5}) || l[1] != (api.Ref{Serial: 2, At: 1, Len: 5}) {
		t.Errorf("P17.3: the example: Refs: %v", l)
	}
	p.same(t)
}

func TestNew(t *testing.T) {
	for _, n := range []int{wordsLeast, wordsLeast + 1, 64, 4096, 131072, wordsMost - 1, wordsMost} {
		p := newPair(t, n)
		p.same(t)
		if p.f.Used() != 1 || p.f.Pack() != 0 || p.f.Used() != 1 || len(p.f.Refs()) != 0 {
			t.Errorf("P17.1: New(%d): %d words used, refs %v", n, p.f.Used(), p.f.Refs())
		}
	}
	for _, n := range []int{math.MinInt, math.MinInt32, -wordsLeast, -1, 0, 1, 8, wordsLeast - 1, wordsMost + 1, 2 * wordsMost, 1 << 31, 1<<32 + wordsLeast, math.MaxInt} {
		if f, e := btree.New(n); f != nil || e != api.ErrArg {
			t.Errorf("P17.1: New(%d): %v, error %d; want ErrArg", n, f, e)
		}
	}
}

// A forest of the fewest words that may be has no room for a long key, and nothing of it is kept.
func TestLeastForest(t *testing.T) {
	p := newPair(t, wordsLeast)
	for range 3 {
		if e := p.f.Put(0, long(1), ref(1)); e != api.ErrFull {
			t.Errorf("P17.1: a key of 64 bytes in 16 words: error %d", e)
		}
		p.same(t)
	}
	p.put(t, 15, "a", ref(1))
	p.delete(t, 15, "a")
	p.same(t)
	p.pack(t)
	if p.f.Used() != 1 {
		t.Errorf("P17.3: an empty forest has %d words that are used", p.f.Used())
	}
}

// none holds all that a forest that is none answers against the document, whatever it is given.
func none(t *testing.T, f *btree.Forest) {
	t.Helper()
	for _, root := range []int{math.MinInt, -1, 0, 15, 16, math.MaxInt} {
		for _, k := range []string{"", "a", long(1), long(1) + "x"} {
			for _, r := range []api.Ref{{}, {Serial: 1}, {Serial: 1, At: -1, Len: math.MaxInt}} {
				if e := f.Put(root, k, r); e != api.ErrNil {
					t.Errorf("P17.1: Put(%d, %q, %v) of no forest: error %d", root, k, r, e)
				}
			}
			if is, e := f.Delete(root, k); is || e != api.ErrNil {
				t.Errorf("P17.1: Delete(%d, %q) of no forest: %v, error %d", root, k, is, e)
			}
			_, a := f.Get(root, k)
			k1, r1, b := f.Seek(root, k)
			k2, r2, c := f.Back(root, k)
			if a || b || c || k1+k2 != "" || r1 != (api.Ref{}) || r2 != (api.Ref{}) {
				t.Errorf("P17.2: Get, Seek and Back of no forest: %v, %v, %v", a, b, c)
			}
		}
		if f.Len(root) != 0 || len(told(f, root)) != 0 || f.All(root) == nil {
			t.Errorf("P17.2: All of no forest: %v", told(f, root))
		}
		if e, d := f.Copy(root, 0), f.Copy(0, root); e != api.ErrNil || d != api.ErrNil {
			t.Errorf("P17.2: Copy of no forest: errors %d, %d", e, d)
		}
		if e := f.Drop(root); e != api.ErrNil {
			t.Errorf("P17.2: Drop of no forest: error %d", e)
		}
	}
	if e, d := f.Patch(api.Move{}), f.Patch(api.Move{Serial: 1, To: 1, N: 1}); e != api.ErrNil || d != api.ErrNil {
		t.Errorf("P17.3: Patch of no forest: errors %d, %d", e, d)
	}
	if len(f.Refs()) != 0 || f.Pack() != 0 || f.Used() != 0 {
		t.Errorf("P17.3: Refs, Pack and Used of no forest: %v, %d", f.Refs(), f.Used())
	}
}

func TestNoForest(t *testing.T) {
	none(t, nil)
	none(t, &btree.Forest{})
}
