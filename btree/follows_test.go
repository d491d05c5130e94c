package btree_test

import (
	"slices"
	"testing"

	"dunnage/api"
)

// anyKey is a key by chance: mostly one of few, so that it is there.
func (c *chance) anyKey() string {
	switch c.next(8) {
	case 0:
		return long(c.next(40))
	case 1, 2:
		all := texts(2)[1:]
		return all[c.next(len(all))]
	}
	return key(c.next(60))
}

// anyRoot is a version, mostly one of four.
func (c *chance) anyRoot() int {
	if c.next(6) == 0 {
		return c.next(rootsMost)
	}
	return c.next(4)
}

// step does one thing with a pair, by chance.
func (p pair) step(t *testing.T, c *chance) {
	t.Helper()
	switch c.next(20) {
	case 0:
		p.copy(t, c.anyRoot(), c.anyRoot())
	case 1:
		if c.next(4) == 0 {
			p.drop(t, c.anyRoot())
		}
	case 2:
		r := c.anyRef()
		p.patch(t, api.Move{Serial: r.Serial, From: r.At, To: c.anyRef().At, N: r.Len})
	case 3:
		p.pack(t)
	case 4, 5, 6, 7, 8:
		p.tryDelete(t, c.anyRoot(), c.anyKey())
	default:
		p.tryPut(t, c.anyRoot(), c.anyKey(), c.anyRef())
	}
}

// Whatever is put, deleted, copied, dropped, moved and packed, in whatever order, with room and without.
func TestWhateverIsDone(t *testing.T) {
	c := chance(61)
	for round := range 120 {
		p := newPair(t, []int{16 + c.next(200), 17*128 + c.next(2000), 1 << 14, 1 << 17}[round%4])
		for range 250 {
			p.step(t, &c)
			if c.next(40) == 0 {
				p.same(t)
			}
		}
		p.same(t)
	}
}

// 'What follows': each version is a table by itself. What is told of one is the same, whatever is done to the others.
func TestVersionsAreApart(t *testing.T) {
	c := chance(62)
	for range 60 {
		p := newPair(t, 1<<16)
		for range 60 {
			p.step(t, &c)
		}
		root := c.anyRoot()
		want := p.m[root].entries()
		for range 60 {
			other := (root + 1 + c.next(rootsMost-1)) % rootsMost
			switch c.next(5) {
			case 0:
				p.copy(t, root, other)
			case 1:
				p.drop(t, other)
			case 2:
				p.delete(t, other, c.anyKey())
			default:
				p.put(t, other, c.anyKey(), c.anyRef())
			}
			if got := told(p.f, root); !slices.Equal(got, want) || p.f.Len(root) != len(want) {
				t.Fatalf("what follows: the version %d: %v; want %v", root, shown(got), shown(want))
			}
		}
		p.same(t)
	}
}

// 'What follows': Pack changes nothing that is told.
func TestPackChangesNothing(t *testing.T) {
	c := chance(63)
	free := 0
	for range 150 {
		p := newPair(t, 2000+c.next(1<<14))
		for range 60 {
			p.step(t, &c)
		}
		if p.pack(t) > 0 {
			free++
		}
		p.same(t)
		for range 20 {
			p.step(t, &c)
		}
		p.same(t)
	}
	if free < 100 {
		t.Errorf("the model: words became free in %d of 150 forests", free)
	}
}

// The same calls are answered alike, whatever is done with other forests in between.
func TestAgain(t *testing.T) {
	for seed := range 20 {
		p, q, other := newPair(t, 3000), newPair(t, 3000), newPair(t, 3000)
		one, two, three := chance(seed+1), chance(seed+1), chance(seed+77)
		for range 200 {
			p.step(t, &one)
			other.step(t, &three)
			q.step(t, &two)
			if p.f.Used() != q.f.Used() {
				t.Fatalf("R2: %d words are used; by the same calls %d", p.f.Used(), q.f.Used())
			}
		}
		for root := range rootsMost {
			if !slices.Equal(told(p.f, root), told(q.f, root)) {
				t.Fatalf("R2: %v; by the same calls %v", told(p.f, root), told(q.f, root))
			}
		}
	}
}
