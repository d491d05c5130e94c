package arena_test

import (
	"iter"
	"slices"
	"sync"
	"testing"

	"dunnage/api"
	"dunnage/arena"
)

// many is an arena of some objects.
func many(t *testing.T) pair {
	t.Helper()
	c := chance(3)
	p := newPair(t, 256)
	for i := range 12 {
		at := p.has(t, i, p.anyPlaces(&c, i%4), c.some(i%3))
		p.setRoot(t, i, at*(i%2))
	}
	return p
}

// anyPlaces is some places of objects, and 0.
func (p pair) anyPlaces(c *chance, n int) []int {
	var l []int
	for range n {
		at := 0
		if k := c.next(len(p.m.l) + 1); k > 0 {
			at = p.m.l[k-1].at
		}
		l = append(l, at)
	}
	return l
}

func gathered(all iter.Seq2[int, api.Object]) []thing {
	var l []thing
	for at, o := range all {
		l = append(l, thing{at, o})
	}
	return l
}

// tells holds what a sequence tells against what it is to tell.
func tells(t *testing.T, what string, all iter.Seq2[int, api.Object], want []thing) {
	t.Helper()
	if got := gathered(all); !slices.EqualFunc(got, want, sameThing) {
		t.Fatalf("P16.4: All %s: %v; want %v", what, got, want)
	}
}

// All tells what was there when it was asked, whatever is done with the arena behind that.
func TestAllTellsWhatWasThere(t *testing.T) {
	changes := []struct {
		what string
		do   func(p pair)
	}{
		{"no change", func(p pair) {}},
		{"Make", func(p pair) { p.has(t, 1, places(1), words(2)) }},
		{"Set", func(p pair) {
			for _, x := range p.m.l {
				for i := range x.o.Data {
					p.set(t, x.at, i, 4096)
				}
			}
		}},
		{"SetRoot", func(p pair) { p.setRoot(t, 1, 0) }},
		{"Pack", func(p pair) { p.pack(t) }},
		{"Pack, and Make again", func(p pair) {
			for slot := range rootsMost {
				p.setRoot(t, slot, 0)
			}
			p.pack(t)
			p.has(t, 15, make([]int, 100), make([]uint32, 50))
		}},
	}
	for _, r := range changes {
		p := many(t)
		all, want := p.a.All(), p.m.clone().l
		r.do(p)
		tells(t, "asked ahead of "+r.what, all, want)
		tells(t, "asked ahead of "+r.what+", again", all, want)
		p.same(t)
		for at := range want {
			p := many(t)
			n := 0
			for place, o := range p.a.All() {
				if !sameThing(thing{place, o}, want[n]) {
					t.Fatalf("P16.4: All, with %s in its midst: %d, %v; want %v", r.what, place, o, want[n])
				}
				if n++; n == at+1 {
					r.do(p)
				}
			}
			if n != len(want) {
				t.Fatalf("P16.4: All, with %s in its midst: %d objects; want %d", r.what, n, len(want))
			}
			p.same(t)
		}
	}
}

// An arena without objects tells nothing, then, and behind objects were made.
func TestAllOfNothing(t *testing.T) {
	p := newPair(t, 64)
	all := p.a.All()
	p.has(t, 1, nil, nil)
	tells(t, "of nothing", all, nil)
	tells(t, "of one", p.a.All(), []thing{{1, api.Object{Kind: 1}}})
	p.pack(t)
	tells(t, "of what was packed away", p.a.All(), nil)
}

// What is dead, and was not packed away, is told, too.
func TestAllTellsTheDead(t *testing.T) {
	p := pointed(t, 64)
	if l := told(p.a); len(l) != 3 || p.a.Live() != 0 {
		t.Errorf("P16.4: All of three objects that are dead: %v", l)
	}
}

// A sequence may be left at any object, and begins at the first one again.
func TestAllIsLeft(t *testing.T) {
	p := many(t)
	want, all := p.m.l, p.a.All()
	for at := range len(want) + 1 {
		for range 2 {
			var got []thing
			for place, o := range all {
				if got = append(got, thing{place, o}); len(got) > at {
					break
				}
			}
			if !slices.EqualFunc(got, want[:min(at+1, len(want))], sameThing) {
				t.Fatalf("P16.4: All, left at %d: %v", at, got)
			}
		}
		tells(t, "behind being left", all, want)
	}
	func() {
		defer func() { _ = recover() }()
		for range all {
			panic("left")
		}
	}()
	tells(t, "behind a panic", all, want)
}

// R6: a sequence stops as soon as its function answers false, and asks it no more.
func TestAllStops(t *testing.T) {
	p := many(t)
	for at := 1; at <= len(p.m.l); at++ {
		asked := 0
		p.a.All()(func(int, api.Object) bool {
			if asked++; asked > at {
				t.Fatal("R6: All goes on behind false")
			}
			return asked < at
		})
		if asked != at {
			t.Errorf("R6: All, left at %d, tells %d", at, asked)
		}
	}
}

// A sequence that is gone through in its own midst tells what it would have told.
func TestAllInTheMidst(t *testing.T) {
	p := many(t)
	all := p.a.All()
	var got []thing
	for at, o := range all {
		got = append(got, thing{at, o})
		tells(t, "in the midst of itself", all, p.m.l)
		for range all {
			break
		}
	}
	if !slices.EqualFunc(got, p.m.l, sameThing) {
		t.Errorf("P16.4: All with itself in its midst: %v", got)
	}
}

// R3: who writes into what a sequence tells changes nothing that it tells again, nor the arena.
func TestAllTellsNewMemory(t *testing.T) {
	p := many(t)
	all := p.a.All()
	for range 2 {
		for _, o := range all {
			spoil(o)
		}
		tells(t, "behind writing into what it told", all, p.m.l)
		p.same(t)
	}
}

// R2: goings through at the same time know nothing of one another; nor do calls that change nothing.
func TestReadSideBySide(t *testing.T) {
	p := many(t)
	all := p.a.All()
	var work sync.WaitGroup
	bad := make([]bool, 8)
	for i := range bad {
		work.Go(func() {
			for range 100 {
				o, e := p.a.At(p.m.l[i].at)
				f := p.a.Fork()
				f.Set(p.m.l[1].at, 0, uint32(i))
				f.Pack()
				bad[i] = bad[i] || !slices.EqualFunc(gathered(all), p.m.l, sameThing) || e != api.OK || !sameObject(o, p.m.l[i].o) ||
					p.a.Live() != p.m.live() || p.a.Used() != p.m.used() || p.a.Root(i) != p.m.root(i)
			}
		})
	}
	work.Wait()
	if slices.Contains(bad, true) {
		t.Error("R2: calls side by side answer something else")
	}
}

// R2: arenas that are worked on side by side know nothing of one another.
func TestArenasSideBySide(t *testing.T) {
	p := many(t)
	var work sync.WaitGroup
	bad := make([]bool, 8)
	for i := range bad {
		q := p.fork()
		work.Go(func() {
			c := chance(i + 1)
			for range 200 {
				kind, ptrs, data := c.next(16), q.anyPlaces(&c, c.next(4)), c.some(c.next(4))
				at, e := q.a.Make(kind, ptrs, data)
				want, err := q.m.make(kind, ptrs, data)
				if bad[i] = bad[i] || at != want || e != err; e == api.ErrFull {
					bad[i] = bad[i] || q.a.Pack() != q.m.pack()
				}
			}
			bad[i] = bad[i] || !slices.EqualFunc(told(q.a), q.m.l, sameThing)
		})
	}
	work.Wait()
	p.same(t)
	if slices.Contains(bad, true) {
		t.Error("R2: arenas side by side answer something else")
	}
}

// All of a fork, and of what it was forked from, are told apart.
func TestAllOfForks(t *testing.T) {
	p := many(t)
	q := p.fork()
	one, other := p.a.All(), q.a.All()
	want := p.m.clone().l
	p.pack(t)
	q.has(t, 1, nil, nil)
	tells(t, "of what was forked", one, want)
	tells(t, "of a fork", other, want)
	var none *arena.Arena
	tells(t, "of nil", none.All(), nil)
}
