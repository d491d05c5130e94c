package btree_test

import (
	"math"
	"slices"
	"testing"

	"dunnage/api"
)

// marked is a forest in which one ref stands in versions that share all, some and nothing, and others that are like it in part.
func marked(t *testing.T) pair {
	t.Helper()
	p := newPair(t, 1<<14)
	for i := range 40 {
		p.put(t, 0, key(i), ref(i))
	}
	for i, r := range []api.Ref{{Serial: 7, At: 9, Len: 5}, {Serial: 7, At: 9, Len: 6}, {Serial: 7, At: 8, Len: 5}, {Serial: 8, At: 9, Len: 5}, {Serial: 7 + 1<<32, At: 9, Len: 5}, {Serial: 7 << 32, At: 9, Len: 5}} {
		p.put(t, 0, "m"+key(i), r)
		p.put(t, 0, "a"+key(i), r)
	}
	p.copy(t, 0, 1)
	p.copy(t, 0, 14)
	p.put(t, 14, "mm", api.Ref{Serial: 7, At: 9, Len: 77})
	p.put(t, 5, "z", api.Ref{Serial: 7, At: 9, Len: 5})
	p.delete(t, 1, "m"+key(0))
	return p
}

// Each ref with that Serial and At goes, in each version; none else does.
func TestPatch(t *testing.T) {
	for _, m := range []api.Move{
		{Serial: 7, From: 9, To: 3, N: 1},
		{Serial: 7, From: 9, To: 3},
		{Serial: 7, From: 9, To: 3, N: math.MinInt},
		{Serial: 7, From: 9, To: 3, N: math.MaxInt},
		{Serial: 7, From: 9, To: 8, N: 1},
		{Serial: 7, From: 9, To: 9, N: 1},
		{Serial: 7, From: 9, To: 0, N: 1},
		{Serial: 7, From: 9, To: sectorsMost, N: 1},
		{Serial: 7, From: 8, To: 9, N: 1},
		{Serial: 8, From: 9, To: 10, N: 1},
		{Serial: 7 << 32, From: 9, To: 1},
		{Serial: 7 + 1<<32, From: 9, To: 1},
	} {
		p := marked(t)
		was := p.m.refs()
		p.patch(t, m)
		p.same(t)
		if slices.Equal(was, p.f.Refs()) != (m.From == m.To) {
			t.Errorf("P17.3: Patch(%v): refs %v", m, p.f.Refs())
		}
	}
}

// Of a ref that stands nowhere nothing changes.
func TestPatchOfNothing(t *testing.T) {
	for _, m := range []api.Move{{Serial: 7, From: 10, To: 9}, {Serial: 9000, From: 9, To: 1}, {Serial: 1, From: 1, To: 5}, {Serial: math.MaxUint64, From: 0, To: 1}, {Serial: 1 << 32, From: 0, To: 1}} {
		p := marked(t)
		was, used := p.f.Refs(), p.f.Used()
		p.patch(t, m)
		if p.f.Used() != used || !slices.Equal(was, p.f.Refs()) {
			t.Errorf("P17.3: Patch(%v): %v", m, p.f.Refs())
		}
		p.same(t)
		q := newPair(t, wordsLeast)
		q.patch(t, m)
		q.same(t)
	}
}

// There and back again: all is as it was. What was moved to where another of the Serial stands goes on with that one.
func TestPatchThereAndBack(t *testing.T) {
	p := marked(t)
	for _, m := range []api.Move{{Serial: 7, From: 9, To: 77}, {Serial: 7, From: 77, To: 9}, {Serial: 7, From: 9, To: 8}, {Serial: 7, From: 8, To: 9}} {
		p.patch(t, m)
		p.same(t)
	}
}

// Each key's ref is moved, in turn, in versions of each size, and found from each version.
func TestPatchOfEachRef(t *testing.T) {
	for n := 1; n < 100; n += 1 + n/4 {
		p := newPair(t, 1<<15)
		for i := range n {
			p.put(t, 0, key(i), ref(i))
			p.copy(t, 0, 1+i%15)
		}
		for i := range n {
			p.patch(t, api.Move{Serial: uint64(i) + 1, From: i, To: sectorsMost - i, N: 1})
			p.list(t, 0)
			p.list(t, 1+i%15)
		}
		p.same(t)
	}
}

// Patch needs no room, and uses no word.
func TestPatchWithoutRoom(t *testing.T) {
	p := full(t)
	p.f.Pack()
	used := p.f.Used()
	for i := range 40 {
		p.patch(t, api.Move{Serial: ref(i).Serial, From: i, To: 5000 + i, N: 1})
	}
	p.same(t)
	if p.f.Used() != used || p.f.Pack() != 0 {
		t.Errorf("P17.3: Patch in a full forest: %d words used, then %d", used, p.f.Used())
	}
}

// Refs tells each ref once, of all versions, and in its order: by Serial, then At, then Len, as numbers.
func TestRefs(t *testing.T) {
	c := chance(51)
	var l []api.Ref
	for _, serial := range []uint64{1, 2, 9, 10, 255, 256, 1<<32 - 1, 1 << 32, 1 << 40, 1<<63 - 1, 1 << 63, math.MaxUint64} {
		for _, at := range []int{0, 9, 10, 256, sectorsMost} {
			for _, size := range []int{0, 9, 10, valueMost} {
				l = append(l, api.Ref{Serial: serial, At: at, Len: size})
			}
		}
	}
	p := newPair(t, 1<<17)
	for n, i := range c.order(len(l)) {
		p.put(t, n%rootsMost, key(n/3), l[i])
		p.put(t, c.next(rootsMost), key(1000+n), l[i])
	}
	if got := p.f.Refs(); !slices.Equal(got, l) {
		t.Fatalf("P17.3: Refs: %d: %v; want %d: %v", len(got), shown(got), len(l), shown(l))
	}
	p.same(t)
	p.copy(t, 0, 1)
	p.same(t)
}

// A ref is told as long as a version has it, and no longer: what was replaced, deleted or dropped is not, packed or not.
func TestRefsOfWhatIsThere(t *testing.T) {
	p := newPair(t, 4096)
	has := func(what string, want ...api.Ref) {
		t.Helper()
		if got := p.f.Refs(); !slices.Equal(got, want) {
			t.Errorf("P17.3: Refs %s: %v; want %v", what, got, want)
		}
	}
	has("of nothing")
	p.put(t, 0, "a", ref(1))
	p.put(t, 0, "b", ref(1))
	p.put(t, 3, "a", ref(1))
	has("of one that stands thrice", ref(1))
	p.put(t, 0, "a", ref(2))
	p.put(t, 0, "b", ref(3))
	has("of what one version has still", ref(1), ref(2), ref(3))
	p.delete(t, 3, "a")
	has("of what was deleted", ref(2), ref(3))
	p.copy(t, 0, 15)
	p.delete(t, 0, "b")
	has("of what a copy has still", ref(2), ref(3))
	p.copy(t, 0, 15)
	has("of what was copied over", ref(2))
	p.drop(t, 0)
	has("of what another one has still", ref(2))
	p.drop(t, 15)
	has("of what was dropped")
	p.pack(t)
	has("of what was packed")
}
