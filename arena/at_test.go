package arena_test

import (
	"math"
	"testing"

	"dunnage/api"
)

// Objects are at their places alone.
func TestAt(t *testing.T) {
	p := pointed(t, 64)
	rows := []struct {
		at   int
		want api.Object
	}{
		{1, api.Object{Kind: 1, Data: words(4096)}},
		{3, api.Object{Kind: 2, Ptrs: places(1, 0), Data: words(8192)}},
		{7, api.Object{Kind: 3}},
	}
	for _, r := range rows {
		if o, e := p.a.At(r.at); e != api.OK || !sameObject(o, r.want) {
			t.Errorf("P16.2: At(%d): %v, error %d; want %v", r.at, o, e, r.want)
		}
	}
	for _, at := range append(nowhere(), 0, 2, 4, 5, 6, 8, 9, 63, 64, 65) {
		if o, e := p.a.At(at); e != api.ErrNone || !sameObject(o, api.Object{}) {
			t.Errorf("P16.2: At(%d): %v, error %d; want ErrNone", at, o, e)
		}
		if e := p.set(t, at, 0, 5); e != api.ErrNone {
			t.Errorf("P16.2: Set(%d): error %d; want ErrNone", at, e)
		}
		if e := p.set(t, at, -1, 5); e != api.ErrNone {
			t.Errorf("R5: Set(%d) of a word that is none: error %d; want ErrNone", at, e)
		}
	}
	p.same(t)
}

// Where nothing stands any more, or not yet, there is no object, whatever stood there.
func TestAtBehindPack(t *testing.T) {
	p := pointed(t, 64)
	p.setRoot(t, 5, 7)
	p.pack(t)
	p.same(t)
	for _, at := range places(3, 7) {
		if _, e := p.a.At(at); e != api.ErrNone {
			t.Errorf("P16.2: At(%d) behind Pack: error %d; want ErrNone", at, e)
		}
		p.refuses(t, api.ErrArg, 0, places(at), nil)
	}
	if o, e := p.a.At(1); e != api.OK || o.Kind != 3 {
		t.Errorf("P16.2: At(1) behind Pack: %v, error %d", o, e)
	}
	if at := p.has(t, 9, places(1), words(1, 2)); at != 2 {
		t.Errorf("P16.2: Make behind Pack: %d; want 2", at)
	}
	p.same(t)
}

// Each word of objects of each of some counts of pointers and words: one is set, and nothing else.
func TestSetOfEachWord(t *testing.T) {
	for ptrs := range 4 {
		for more := range 5 {
			p := pointed(t, 64)
			at := p.has(t, 15, make([]int, ptrs), words(11, 12, 13, 14)[:more])
			p.has(t, 0, places(at), words(1))
			for i := -2; i < more+3; i++ {
				for _, v := range words(0, 1, 4096, 1<<31, 1<<32-1) {
					e := p.set(t, at, i, v)
					if may := i >= 0 && i < more; may != (e == api.OK) || !may && e != api.ErrArg {
						t.Errorf("P16.2: Set(%d, %d) of %d words: error %d", at, i, more, e)
					}
					p.same(t)
				}
			}
			for _, i := range nowhere() {
				if e := p.set(t, at, i, 5); e != api.ErrArg {
					t.Errorf("P16.2: Set(%d, %d): error %d; want ErrArg", at, i, e)
				}
			}
			p.same(t)
		}
	}
}

// A word may be set to what is a place, or a head: it is no pointer, and no object.
func TestSetIsNoPointer(t *testing.T) {
	p := pointed(t, 64)
	p.setRoot(t, 0, 3)
	p.set(t, 3, 0, 7)
	p.set(t, 1, 0, 1*4096)
	p.same(t)
	p.refuses(t, api.ErrArg, 0, places(2), nil)
	if n := p.pack(t); n != 1 || p.a.Live() != 6 {
		t.Errorf("P16.2: a word that is set to a place keeps an object: %d free, %d live", n, p.a.Live())
	}
	p.same(t)
}

// Each root, set and taken away, by itself.
func TestRoots(t *testing.T) {
	p := pointed(t, 64)
	for slot := range rootsMost {
		for _, at := range places(1, 3, 7, 0, 7) {
			if e := p.setRoot(t, slot, at); e != api.OK || p.a.Root(slot) != at {
				t.Errorf("P16.3: SetRoot(%d, %d): error %d; Root: %d", slot, at, e, p.a.Root(slot))
			}
			p.same(t)
		}
	}
}

func TestRootsThatAreNone(t *testing.T) {
	p := pointed(t, 64)
	for slot := range rootsMost {
		p.setRoot(t, slot, places(1, 3, 7)[slot%3])
	}
	slots := []int{math.MinInt, math.MinInt32, -1 << 32, -16, -2, -1, 16, 17, 31, 32, 255, 256, 1 << 32, 1<<32 + 1, math.MaxInt}
	for _, slot := range slots {
		for _, at := range places(0, 1, 3, 7, 2, -1) {
			if e := p.setRoot(t, slot, at); e != api.ErrArg || p.a.Root(slot) != 0 {
				t.Errorf("P16.3: SetRoot(%d, %d): error %d; Root: %d", slot, at, e, p.a.Root(slot))
			}
		}
	}
	for slot := range rootsMost {
		for _, at := range append(nowhere(), 2, 4, 5, 6, 8, 9, 63, 64) {
			if e := p.setRoot(t, slot, at); e != api.ErrArg || p.a.Root(slot) != places(1, 3, 7)[slot%3] {
				t.Errorf("P16.3: SetRoot(%d, %d): error %d; Root: %d", slot, at, e, p.a.Root(slot))
			}
		}
	}
	p.same(t)
}

// As roots are set and taken away, what lives by them does, and what that points to; what lives by two is counted once.
func TestLive(t *testing.T) {
	p := newPair(t, 64)
	one := p.has(t, 1, nil, words(5))        // 2 words
	two := p.has(t, 2, places(one), nil)     // 2, and the 2 of one
	three := p.has(t, 3, places(one), nil)   // likewise
	four := p.has(t, 4, places(two, 0), nil) // 3, and 4
	p.has(t, 5, places(four), words(1))
	steps := []struct{ slot, at, want int }{
		{0, one, 2}, {15, one, 2}, {1, two, 4}, {2, three, 6}, {0, 0, 6}, {15, 0, 6}, {1, 0, 4}, {7, four, 9}, {2, 0, 7}, {7, one, 2}, {7, 0, 0},
	}
	for _, s := range steps {
		p.setRoot(t, s.slot, s.at)
		if n := p.a.Live(); n != s.want {
			t.Errorf("P16.3: Live behind SetRoot(%d, %d): %d; want %d", s.slot, s.at, n, s.want)
		}
		p.same(t)
	}
}
