package arena_test

import (
	"slices"
	"testing"

	"dunnage/api"
)

// give is a list in new memory, with room behind it in which something stands.
func give[T uint32 | int](l []T) []T {
	return append(slices.Grow(slices.Clone(l), 3), 77, 78, 79)[:len(l)]
}

// stays: is what was given as it was, with the room behind its end?
func stays[T uint32 | int](given, l []T) bool {
	return slices.Equal(given, l) && slices.Equal(given[:len(l)+3][len(l):], []T{77, 78, 79})
}

// spoilList writes into all of a list, and into the room behind it.
func spoilList[T uint32 | int](l []T) {
	for i := range l[:cap(l)] {
		l[:cap(l)][i] = 4242
	}
}

// spoil writes into all that an object has.
func spoil(o api.Object) {
	spoilList(o.Ptrs)
	spoilList(o.Data)
}

// R3: what is handed to Make stays, whether it is refused or not; and who writes into it behind the call changes nothing.
func TestWhatIsHandedInStays(t *testing.T) {
	c := chance(41)
	refused := 0
	for range 300 {
		p := newPair(t, 16+c.next(50))
		for range 12 {
			kind, ptrs, data := c.next(17), p.anyOf(&c, c.next(4)), c.some(c.next(5))
			l, w := give(ptrs), give(data)
			at, e := p.a.Make(kind, l, w)
			if want, err := p.m.make(kind, ptrs, data); at != want || e != err {
				t.Fatalf("P16.2: Make(%d, %v, %v): %d, error %d; want %d, error %d", kind, ptrs, data, at, e, want, err)
			}
			if !stays(l, ptrs) || !stays(w, data) {
				t.Fatalf("R3: Make(%d, %v, %v) writes into what it is given: %v, %v", kind, ptrs, data, l, w)
			}
			if e != api.OK {
				refused++
			}
			spoilList(l)
			spoilList(w)
		}
		p.same(t)
	}
	if refused < 300 || refused > 3000 {
		t.Errorf("the model's calls: %d of 3600 are refused", refused)
	}
}

// R3: what At answers is new memory: who writes into one of its lists, or into the room behind it, changes neither the other one, nor the arena, nor another answer; nor does Set change it.
func TestAnswersAreNewMemory(t *testing.T) {
	c := chance(42)
	for range 300 {
		p := newPair(t, 128)
		for range 10 {
			p.has(t, c.next(16), p.anyPlaces(&c, c.next(4)), c.some(c.next(5)))
		}
		for _, x := range p.m.clone().l {
			one, e := p.a.At(x.at)
			other, f := p.a.At(x.at)
			if e != api.OK || f != api.OK {
				t.Fatalf("P16.2: At(%d): errors %d, %d", x.at, e, f)
			}
			spoilList(one.Ptrs)
			if !slices.Equal(one.Data, x.o.Data) {
				t.Fatalf("R3: who writes into the pointers of %v changes its words: %v", x, one.Data)
			}
			spoilList(one.Data)
			p.same(t)
			for i := range x.o.Data {
				p.set(t, x.at, i, 99)
			}
			if !sameObject(other, x.o) {
				t.Fatalf("R3: who sets words of %v changes what At answered: %v", x, other)
			}
		}
		p.same(t)
	}
}

// R3: nil and an empty list are the same.
func TestNilAndEmpty(t *testing.T) {
	p := newPair(t, 64)
	for _, ptrs := range [][]int{nil, {}} {
		for _, data := range [][]uint32{nil, {}} {
			at := p.has(t, 5, ptrs, data)
			if o, e := p.a.At(at); e != api.OK || o.Kind != 5 || len(o.Ptrs) != 0 || len(o.Data) != 0 {
				t.Errorf("R3: Make(5, %v, %v) made %v, error %d", ptrs, data, o, e)
			}
		}
	}
	if p.a.Used() != 5 {
		t.Errorf("R3: four objects of one word: %d words used", p.a.Used())
	}
}

// R2: arenas of which the same is asked know nothing of one another: what is done to the one plays no part in the other.
func TestArenasAreApart(t *testing.T) {
	p, q := pointed(t, 64), pointed(t, 64)
	p.setRoot(t, 0, 7)
	p.pack(t)
	p.set(t, 1, 0, 5)
	q.same(t)
	q.set(t, 1, 0, 6)
	q.has(t, 1, places(7), nil)
	p.same(t)
	q.same(t)
}
