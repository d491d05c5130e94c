package arena_test

import (
	"slices"
	"testing"

	"dunnage/api"
)

// Pack of an arena of which all lives, nothing does, or some does.
func TestPack(t *testing.T) {
	rows := []struct {
		what  string
		roots []int
		free  int
		then  []int // the roots behind it
		all   []thing
	}{
		{"all lives", places(3, 7), 0, places(3, 7), []thing{{1, api.Object{Kind: 1, Data: words(4096)}}, {3, api.Object{Kind: 2, Ptrs: places(1, 0), Data: words(8192)}}, {7, api.Object{Kind: 3}}}},
		{"nothing lives", nil, 7, nil, nil},
		{"the last one lives", places(0, 7, 7), 6, places(0, 1, 1), []thing{{1, api.Object{Kind: 3}}}},
		{"the first one lives", places(1), 5, places(1), []thing{{1, api.Object{Kind: 1, Data: words(4096)}}}},
		{"the first and the last one live", places(7, 0, 1), 4, places(3, 0, 1), []thing{{1, api.Object{Kind: 1, Data: words(4096)}}, {3, api.Object{Kind: 3}}}},
		{"all but the last one live", places(0, 3), 1, places(0, 3), []thing{{1, api.Object{Kind: 1, Data: words(4096)}}, {3, api.Object{Kind: 2, Ptrs: places(1, 0), Data: words(8192)}}}},
	}
	for _, r := range rows {
		p := pointed(t, 64)
		for slot, at := range r.roots {
			p.setRoot(t, slot, at)
		}
		if n := p.pack(t); n != r.free || p.a.Used() != 8-r.free || !slices.EqualFunc(told(p.a), r.all, sameThing) {
			t.Errorf("P16.4: Pack, where %s: %d, %d used, %v; want %d, %v", r.what, n, p.a.Used(), told(p.a), r.free, r.all)
		}
		for slot, at := range r.then {
			if p.a.Root(slot) != at {
				t.Errorf("P16.4: Pack, where %s: the root %d is %d; want %d", r.what, slot, p.a.Root(slot), at)
			}
		}
		p.same(t)
		if n := p.pack(t); n != 0 {
			t.Errorf("P16.4: Pack, where %s, once more: %d", r.what, n)
		}
		p.same(t)
	}
}

// Each choice of roots among six objects, that point down, of unlike sizes.
func TestPackOfEachChoice(t *testing.T) {
	p := newPair(t, 64)
	at := places(p.has(t, 0, nil, words(1, 2)))
	at = append(at, p.has(t, 1, places(at[0]), nil))
	at = append(at, p.has(t, 2, places(0, at[0]), words(3)))
	at = append(at, p.has(t, 3, places(at[2], at[1], at[2]), nil))
	at = append(at, p.has(t, 4, nil, nil))
	at = append(at, p.has(t, 5, places(at[4], at[4]), words(4, 5)))
	for choice := range 1 << len(at) {
		q := p.fork()
		for i := range at {
			if choice>>i&1 == 1 {
				q.setRoot(t, 15-2*i, at[i])
			}
		}
		live, used := q.a.Live(), q.a.Used()
		if n := q.pack(t); n != used-live-1 || q.a.Used() != live+1 || q.a.Live() != live {
			t.Errorf("what follows: Pack of %06b: %d free, %d used, %d live; ahead of it %d used, %d live", choice, n, q.a.Used(), q.a.Live(), used, live)
		}
		q.same(t)
		if n := q.pack(t); n != 0 {
			t.Errorf("P16.4: Pack of %06b, once more: %d", choice, n)
		}
	}
	p.same(t)
}

// There is room again for as much as became free, and for no word more.
func TestRoomBehindPack(t *testing.T) {
	for keep := range 8 {
		p := newPair(t, 100)
		for i := 0; ; i++ {
			at, e := p.make(t, i%16, nil, make([]uint32, i%5))
			if e != api.OK {
				break
			}
			if i < keep {
				p.setRoot(t, i, at)
			}
		}
		ahead := 100 - p.a.Used()
		n := p.pack(t) + ahead
		p.refuses(t, api.ErrFull, 0, nil, make([]uint32, n))
		at := p.has(t, 0, nil, make([]uint32, n-1))
		if p.a.Used() != 100 || at != 100-n {
			t.Errorf("P16.4: where %d words became free, one of these was given the place %d", n, at)
		}
		p.refuses(t, api.ErrFull, 0, nil, nil)
		p.setRoot(t, 0, at)
		p.pack(t)
		p.same(t)
	}
}

// An arena is filled and packed again and again: no room is lost.
func TestFilledAgainAndAgain(t *testing.T) {
	p := newPair(t, 64)
	kept := p.has(t, 7, nil, words(1, 2, 3))
	p.setRoot(t, 9, kept)
	for i := range 200 {
		for n := 0; ; n++ {
			if _, e := p.make(t, i%16, places(p.a.Root(9)), words(uint32(n))); e != api.OK {
				break
			}
			if n == 19 {
				t.Fatalf("P16.2: 60 words are room for 20 objects of three")
			}
		}
		if n := p.pack(t); n != 57 {
			t.Fatalf("P16.4: Pack, the time %d: %d; want 57", i, n)
		}
		p.set(t, 1, i%3, uint32(i))
	}
	p.same(t)
}

// Arenas of as many words as may be: a chain of which all lives, half, or nothing.
func TestGreatArenas(t *testing.T) {
	const many = (wordsMost - 1) / 3
	for _, from := range []int{many, many / 2, 0} {
		t.Run("", func(t *testing.T) {
			t.Parallel()
			p := newPair(t, wordsMost)
			at := 0
			for i := range many {
				to, e := p.a.Make(i%16, places(at), words(uint32(i)))
				if e != api.OK || to != 1+3*i {
					t.Fatalf("P16.2: Make of the object %d: %d, error %d", i, to, e)
				}
				if at = to; i+1 == from {
					p.a.SetRoot(1, at)
				}
			}
			if _, e := p.a.Make(0, nil, words(5)); e != api.ErrFull || p.a.Used() != wordsMost {
				t.Fatalf("P16.2: a full arena: error %d, %d words used", e, p.a.Used())
			}
			if n := p.a.Live(); n != 3*from {
				t.Errorf("P16.3: Live of a chain of %d: %d", from, n)
			}
			if n := p.a.Pack(); n != 3*(many-from) || p.a.Used() != 1+3*from {
				t.Errorf("P16.4: Pack of a chain of %d: %d, %d words used", from, n, p.a.Used())
			}
			n := 0
			for at, o := range p.a.All() {
				if at != 1+3*n || o.Kind != n%16 || o.Data[0] != uint32(n) || o.Ptrs[0] != max(at-3, 0) {
					t.Fatalf("P16.4: All of a chain: %d, %v", at, o)
				}
				n++
			}
			if n != from {
				t.Errorf("P16.4: All of a chain of %d tells %d", from, n)
			}
		})
	}
}
