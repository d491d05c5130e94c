package btree_test

import (
	"math"
	"strings"
	"testing"

	"dunnage/api"
)

func noRoots() []int {
	return []int{math.MinInt, math.MinInt32, -16, -1, rootsMost, rootsMost + 1, 32, 1 << 32, 1<<32 + 1, math.MaxInt}
}

func noKeys() []string {
	return []string{"", strings.Repeat("k", keyMost+1), strings.Repeat("\x00", 2*keyMost), strings.Repeat("x", 1<<16)}
}

func noRefs() []api.Ref {
	return []api.Ref{
		{}, {At: 1, Len: 1}, {Serial: 1, At: -1}, {Serial: 1, At: sectorsMost + 1}, {Serial: 1, Len: -1}, {Serial: 1, Len: valueMost + 1},
		{Serial: 1, At: math.MinInt}, {Serial: 1, At: math.MaxInt}, {Serial: 1, Len: math.MinInt}, {Serial: 1, Len: math.MaxInt},
		{Serial: 1, At: 1 << 32}, {Serial: 1, Len: 1 << 32}, {Serial: 1, At: 1<<32 + 1, Len: 1}, {Serial: 0, At: sectorsMost, Len: valueMost},
	}
}

// some is a forest of some versions: short ones, long ones, copies, empty ones.
func some(t *testing.T, words int) pair {
	t.Helper()
	p := newPair(t, words)
	for i := range 30 {
		p.put(t, 0, key(3*i), ref(i))
	}
	p.copy(t, 0, 15)
	p.put(t, 15, key(7), ref(7))
	p.delete(t, 15, key(9))
	p.put(t, 3, "a", ref(100))
	p.copy(t, 3, 4)
	p.put(t, 4, "a\x00", ref(100))
	return p
}

// full is a forest in which no key of some length has room.
func full(t *testing.T) pair {
	t.Helper()
	p := some(t, 1200)
	n := 0
	for p.tryPut(t, 1, long(n), ref(n)) {
		n++
	}
	return p
}

// stays: a call is refused, and nothing has changed, nor is a word used by it.
func (p pair) stays(t *testing.T, what string, want api.Errno, call func() api.Errno) {
	t.Helper()
	p.f.Pack()
	used := p.f.Used()
	if e := call(); e != want {
		t.Fatalf("P17.1: %s: error %d; want %d", what, e, want)
	}
	if p.f.Used() != used || p.f.Pack() != 0 {
		t.Fatalf("R4: %s, which is refused: %d words were used, then %d", what, used, p.f.Used())
	}
	p.same(t)
}

func TestPutIsRefused(t *testing.T) {
	for _, p := range []pair{some(t, 8192), full(t), newPair(t, wordsLeast)} {
		for _, root := range noRoots() {
			p.stays(t, "Put into no version", api.ErrArg, func() api.Errno { return p.f.Put(root, key(1), ref(1)) })
			p.stays(t, "Put of all that may not be", api.ErrArg, func() api.Errno { return p.f.Put(root, "", api.Ref{}) })
		}
		for _, root := range []int{0, 1, 15} {
			for _, k := range noKeys() {
				p.stays(t, "Put of no key", api.ErrArg, func() api.Errno { return p.f.Put(root, k, ref(1)) })
			}
			for _, r := range noRefs() {
				p.stays(t, "Put of no ref", api.ErrArg, func() api.Errno { return p.f.Put(root, key(1), r) })
				p.stays(t, "Put of no ref, of a key that is there", api.ErrArg, func() api.Errno { return p.f.Put(root, key(0), r) })
				p.stays(t, "Put of a long key and no ref", api.ErrArg, func() api.Errno { return p.f.Put(root, long(4000), r) })
			}
		}
	}
}

func TestDeleteIsRefused(t *testing.T) {
	for _, p := range []pair{some(t, 8192), full(t), newPair(t, wordsLeast)} {
		for _, root := range noRoots() {
			for _, k := range append(noKeys(), key(0)) {
				p.stays(t, "Delete from no version", api.ErrArg, func() api.Errno {
					is, e := p.f.Delete(root, k)
					if is {
						t.Errorf("R4: Delete(%d, %q): true, beside error %d", root, k, e)
					}
					return e
				})
			}
		}
		for _, k := range noKeys() {
			p.stays(t, "Delete of no key", api.ErrArg, func() api.Errno {
				is, e := p.f.Delete(0, k)
				if is {
					t.Errorf("R4: Delete(0, %q): true, beside error %d", k, e)
				}
				return e
			})
		}
	}
}

func TestCopyAndDropAreRefused(t *testing.T) {
	p := some(t, 8192)
	for _, bad := range noRoots() {
		for _, good := range []int{0, 3, 15} {
			p.stays(t, "Copy to no version", api.ErrArg, func() api.Errno { return p.f.Copy(good, bad) })
			p.stays(t, "Copy from no version", api.ErrArg, func() api.Errno { return p.f.Copy(bad, good) })
		}
		p.stays(t, "Copy of no version to itself", api.ErrArg, func() api.Errno { return p.f.Copy(bad, bad) })
		p.stays(t, "Drop of no version", api.ErrArg, func() api.Errno { return p.f.Drop(bad) })
	}
}

func TestPatchIsRefused(t *testing.T) {
	p := some(t, 8192)
	p.put(t, 2, "edge", api.Ref{Serial: 1, At: 0})
	p.put(t, 2, "other", api.Ref{Serial: 1, At: sectorsMost})
	for _, bad := range []int{math.MinInt, math.MinInt32, -1, sectorsMost + 1, 2 * sectorsMost, 1 << 32, math.MaxInt} {
		for _, good := range []int{0, sectorsMost} {
			p.stays(t, "Patch to no place", api.ErrArg, func() api.Errno { return p.f.Patch(api.Move{Serial: 1, From: good, To: bad, N: 1}) })
			p.stays(t, "Patch from no place", api.ErrArg, func() api.Errno { return p.f.Patch(api.Move{Serial: 1, From: bad, To: good, N: 1}) })
		}
		p.stays(t, "Patch from no place to itself", api.ErrArg, func() api.Errno { return p.f.Patch(api.Move{Serial: 1, From: bad, To: bad}) })
	}
	p.stays(t, "Patch of no Serial", api.ErrArg, func() api.Errno { return p.f.Patch(api.Move{From: 0, To: 1, N: 1}) })
	p.stays(t, "Patch of nothing", api.ErrArg, func() api.Errno { return p.f.Patch(api.Move{}) })
}

// What is at an edge, and may be, is not refused.
func TestEdgesAreTaken(t *testing.T) {
	p := newPair(t, 16384)
	for _, root := range []int{0, 1, rootsMost - 1} {
		for i, r := range []api.Ref{{Serial: 1}, {Serial: math.MaxUint64}, {Serial: 1, At: sectorsMost}, {Serial: 1, Len: valueMost}, {Serial: math.MaxUint64, At: sectorsMost, Len: valueMost}} {
			p.put(t, root, key(i), r)
			p.put(t, root, "\x00", r)
			p.put(t, root, strings.Repeat("\xff", keyMost), r)
		}
		p.same(t)
	}
	p.copy(t, 0, rootsMost-1)
	p.copy(t, rootsMost-1, 0)
	p.drop(t, rootsMost-1)
	p.drop(t, 0)
	p.same(t)
	for _, m := range []api.Move{{Serial: 1, From: 0, To: sectorsMost}, {Serial: 1, From: sectorsMost, To: 0}, {Serial: math.MaxUint64, From: sectorsMost, To: sectorsMost}, {Serial: math.MaxUint64, From: sectorsMost, To: 1, N: -5}} {
		p.patch(t, m)
		p.same(t)
	}
}
