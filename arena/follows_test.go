package arena_test

import (
	"slices"
	"testing"

	"dunnage/api"
	"dunnage/arena"
)

// step does one thing with a pair, by chance.
func (p pair) step(t *testing.T, c *chance) {
	t.Helper()
	switch c.next(12) {
	case 0, 1, 2, 3, 4:
		p.make(t, c.next(17)-c.next(2), p.anyOf(c, c.next(5)), c.some(c.next(6)))
	case 5, 6:
		p.set(t, p.any(c), c.next(6)-1, uint32(c.next(1<<32)))
	case 7, 8:
		p.setRoot(t, c.next(18)-1, p.any(c)*c.next(2))
	case 9:
		p.setRoot(t, c.next(16), p.any(c))
	case 10:
		p.at(t, p.any(c))
	default:
		if c.next(3) == 0 {
			p.pack(t)
		}
	}
}

// Whatever is made, set, kept by roots, packed and forked, in whatever order.
func TestWhateverIsDone(t *testing.T) {
	c := chance(61)
	for range 150 {
		l := []pair{newPair(t, 16+c.next(30)*c.next(12))}
		for range 120 {
			p := l[c.next(len(l))]
			if c.next(30) == 0 {
				l = append(l, p.fork())
			}
			p.step(t, &c)
			if c.next(8) == 0 {
				l[c.next(len(l))].same(t)
			}
		}
		for _, p := range l {
			p.same(t)
		}
	}
}

// The same calls are answered alike, whatever is done with other arenas in between.
func TestAgain(t *testing.T) {
	for seed := range 40 {
		p, q, other := newPair(t, 100), newPair(t, 100), newPair(t, 100)
		one, two, three := chance(seed+1), chance(seed+1), chance(seed+77)
		for range 100 {
			p.step(t, &one)
			other.step(t, &three)
			q.step(t, &two)
			if p.a.Used() != q.a.Used() || p.a.Live() != q.a.Live() {
				t.Fatalf("R2: %d used, %d live; by the same calls %d, %d", p.a.Used(), p.a.Live(), q.a.Used(), q.a.Live())
			}
		}
		if !slices.EqualFunc(told(p.a), told(q.a), sameThing) {
			t.Fatalf("R2: %v; by the same calls %v", told(p.a), told(q.a))
		}
	}
}

// looksAlike: is what is seen from one arena's roots on what is seen from the other's? The two are gone through side by side, and each object of the one has one of the other.
func looksAlike(a, b *arena.Arena) bool {
	var from, to []int
	for slot := range rootsMost {
		from, to = append(from, a.Root(slot)), append(to, b.Root(slot))
	}
	there, back := map[int]int{0: 0}, map[int]int{0: 0}
	for k := 0; k < len(from); k++ {
		x, y := from[k], to[k]
		x2, seen := there[x]
		y2, seen2 := back[y]
		if seen != seen2 || seen && (x2 != y || y2 != x) {
			return false
		}
		if seen {
			continue
		}
		there[x], back[y] = y, x
		o, e := a.At(x)
		u, f := b.At(y)
		if e != api.OK || f != api.OK || o.Kind != u.Kind || len(o.Ptrs) != len(u.Ptrs) || !slices.Equal(o.Data, u.Data) {
			return false
		}
		from, to = append(from, o.Ptrs...), append(to, u.Ptrs...)
	}
	return true
}

// looksAlike tells arenas apart that are not alike.
func TestLooksAlike(t *testing.T) {
	p := pointed(t, 64)
	p.setRoot(t, 4, 3)
	for _, r := range []struct {
		do   func(q pair)
		want bool
	}{
		{func(q pair) {}, true},
		{func(q pair) { q.pack(t) }, true},
		{func(q pair) { q.has(t, 9, places(1), nil) }, true},
		{func(q pair) { q.setRoot(t, 4, q.has(t, 2, places(q.has(t, 1, nil, words(4096)), 0), words(8192))) }, true},
		{func(q pair) { q.setRoot(t, 4, 0) }, false},
		{func(q pair) { q.setRoot(t, 5, 1) }, false},
		{func(q pair) { q.set(t, 1, 0, 4097) }, false},
		{func(q pair) { q.setRoot(t, 4, 7) }, false},
		{func(q pair) { q.setRoot(t, 4, q.has(t, 2, places(1, 1), words(8192))) }, false},
		{func(q pair) { q.setRoot(t, 4, q.has(t, 3, places(1, 0), words(8192))) }, false},
		{func(q pair) { q.setRoot(t, 4, q.has(t, 2, places(0, 1), words(8192))) }, false},
	} {
		q := p.fork()
		r.do(q)
		if looksAlike(p.a, q.a) != r.want {
			t.Errorf("%v and %v: alike is not %v", told(p.a), told(q.a), r.want)
		}
	}
}

// 'What follows': behind Pack Used is Live and one, and what is seen from the roots is the same; what became free is what did not live.
func TestWhatIsSeenIsTheSame(t *testing.T) {
	c := chance(62)
	some := 0
	for range 2000 {
		p := newPair(t, 16+c.next(200))
		for range 25 {
			p.step(t, &c)
		}
		was, live, used := p.a.Fork(), p.a.Live(), p.a.Used()
		n := p.pack(t)
		if n != used-1-live || p.a.Used() != p.a.Live()+1 || p.a.Live() != live {
			t.Fatalf("what follows: Pack: %d; %d used, %d live; were %d, %d", n, p.a.Used(), p.a.Live(), used, live)
		}
		if !looksAlike(was, p.a) {
			t.Fatalf("what follows: %v looks else than %v", told(p.a), told(was))
		}
		if n > 0 && live > 0 {
			some++
		}
	}
	if some < 500 {
		t.Errorf("the model's arenas: of %d some live and some do not", some)
	}
}
