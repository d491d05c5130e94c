package arena_test

import (
	"testing"

	"dunnage/api"
	"dunnage/arena"
)

// A fork is alike in all; what is done to the one plays no part in the other.
func TestFork(t *testing.T) {
	changes := []struct {
		what string
		do   func(p pair)
	}{
		{"Make", func(p pair) { p.has(t, 1, places(1), words(2)) }},
		{"Make of more than one", func(p pair) {
			for i := range 20 {
				p.has(t, i%16, places(1), words(uint32(i)))
			}
		}},
		{"Set", func(p pair) { p.set(t, p.m.l[2].at, 0, 31) }},
		{"SetRoot", func(p pair) { p.setRoot(t, 1, p.m.l[0].at) }},
		{"Pack", func(p pair) { p.pack(t) }},
		{"Pack of what is dead", func(p pair) {
			for slot := range rootsMost {
				p.setRoot(t, slot, 0)
			}
			p.pack(t)
		}},
	}
	for i, one := range changes {
		p := many(t)
		q := p.fork()
		if p.a == q.a || q.a == nil {
			t.Fatal("P16.4: Fork answers no other arena")
		}
		q.same(t)
		one.do(p)
		p.same(t)
		q.same(t)
		for _, other := range changes[i:] {
			r := p.fork()
			s := r.fork()
			other.do(r)
			r.same(t)
			s.same(t)
			p.same(t)
			other.do(s)
			r.same(t)
			s.same(t)
		}
		one.do(q)
		q.same(t)
		p.same(t)
	}
}

// Objects that are made in two forks at once get the same places, and stand each in its own.
func TestForksMakeApart(t *testing.T) {
	p := pointed(t, 256)
	forks := []pair{p, p.fork(), p.fork(), p.fork()}
	for n := range 30 {
		for i, q := range forks {
			if at := q.has(t, i, places(7), words(uint32(100*i+n))); at != 8+3*n {
				t.Fatalf("P16.2: Make in the fork %d: %d; want %d", i, at, 8+3*n)
			}
		}
	}
	for _, q := range forks {
		q.same(t)
	}
}

// A place that is an object's in the one, and none's in the other, is told so by each.
func TestForksKnowTheirPlaces(t *testing.T) {
	p := pointed(t, 64)
	p.setRoot(t, 0, 7)
	q := p.fork()
	p.pack(t)
	r := p.fork()
	s := q.fork()
	r.has(t, 1, nil, words(1, 2, 3, 4, 5, 6))
	s.has(t, 1, places(7, 3), nil)
	for _, x := range []pair{p, q, r, s} {
		for at := range 12 {
			x.at(t, at)
			x.set(t, at, 0, 9)
			x.fork().make(t, 0, places(at), nil)
			x.fork().setRoot(t, 1, at)
		}
		x.same(t)
	}
}

// What a nil arena answers, whatever it is asked; and one that New did not make likewise.
func TestNone(t *testing.T) {
	for what, a := range map[string]*arena.Arena{"nil": nil, "one of no New": new(arena.Arena)} {
		for range 2 {
			for _, at := range append(nowhere(), 0, 1, 2) {
				if n, e := a.Make(at, places(at), words(1)); n != 0 || e != api.ErrNil {
					t.Errorf("P16.2: Make of %s: %d, error %d", what, n, e)
				}
				if o, e := a.At(at); e != api.ErrNil || !sameObject(o, api.Object{}) {
					t.Errorf("P16.2: At of %s: %v, error %d", what, o, e)
				}
				if e, f := a.Set(at, at, 1), a.SetRoot(at, at); e != api.ErrNil || f != api.ErrNil {
					t.Errorf("P16.2, P16.3: Set and SetRoot of %s: errors %d, %d", what, e, f)
				}
				if n := a.Root(at); n != 0 {
					t.Errorf("P16.4: Root of %s: %d", what, n)
				}
			}
			if n, e := a.Make(0, make([]int, ptrsMost+1), nil); n != 0 || e != api.ErrNil {
				t.Errorf("R5: Make of %s: %d, error %d", what, n, e)
			}
			if a.Words() != 0 || a.Used() != 0 || a.Live() != 0 || a.Pack() != 0 || a.Fork() != nil {
				t.Errorf("P16.4: %s: %d, %d, %d, %d, %v", what, a.Words(), a.Used(), a.Live(), a.Pack(), a.Fork())
			}
			if a.All() == nil || len(told(a)) != 0 {
				t.Errorf("R6: All of %s: %v", what, told(a))
			}
		}
	}
}
