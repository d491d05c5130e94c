package mark_test

import (
	"slices"
	"testing"

	"dunnage/api"
	"dunnage/cells"
	"dunnage/mark"
)

// mustLive is what lives by roots that may be.
func mustLive(t *testing.T, w []uint32, roots []int) []int {
	t.Helper()
	l, e := mark.Live(w, roots)
	if e != api.OK {
		t.Fatalf("P14.1: Live(%v, %v): error %d", w, roots, e)
	}
	return l
}

// goodRoots is some of these places, and 0, by chance.
func goodRoots(c *chance, at []int) []int {
	var l []int
	for range c.next(6) {
		l = append(l, append(at, 0)[c.next(len(at)+1)])
	}
	return l
}

// both is what is in one of two rising lists, each once, rising.
func both(a, b []int) []int {
	l := slices.Concat(a, b)
	slices.Sort(l)
	return slices.Compact(l)
}

// 'What follows': with more roots no less lives; what lives by two lists of roots together lives by one of them, and no more.
func TestMoreRoots(t *testing.T) {
	c := chance(51)
	for range 5000 {
		w, at := heapOf(&c, c.next(12))
		a, b := goodRoots(&c, at), goodRoots(&c, at)
		one, other, all := mustLive(t, w, a), mustLive(t, w, b), mustLive(t, w, slices.Concat(a, b))
		if want := both(one, other); !slices.Equal(all, want) {
			t.Fatalf("what follows: of %v by %v and %v together: %v; by each: %v, %v", w, a, b, all, one, other)
		}
		if back := mustLive(t, w, slices.Concat(b, a)); !slices.Equal(back, all) {
			t.Fatalf("P14.1: of %v by %v and %v, the other way: %v; want %v", w, a, b, back, all)
		}
	}
}

// 'What follows', for each pair of single roots.
func TestEachPairOfRoots(t *testing.T) {
	c := chance(52)
	for range 300 {
		w, at := heapOf(&c, 1+c.next(9))
		for _, a := range at {
			for _, b := range at {
				one, other := mustLive(t, w, places(a)), mustLive(t, w, places(b))
				if all := mustLive(t, w, places(a, b)); !slices.Equal(all, both(one, other)) {
					t.Fatalf("what follows: of %v by %d and %d: %v; by each: %v, %v", w, a, b, all, one, other)
				}
			}
		}
	}
}

// The chapter's sentence, of what Live tells: each root is in it, and each pointer of what is in it; and what is told as roots tells no more.
func TestLiveIsClosed(t *testing.T) {
	c := chance(53)
	for range 3000 {
		w, at := heapOf(&c, c.next(10))
		roots := goodRoots(&c, at)
		live, sum := mustLive(t, w, roots), 0
		for i, x := range live {
			o, e := cells.At(w, x)
			if e != api.OK || i > 0 && live[i-1] >= x {
				t.Fatalf("P14.1: Live(%v, %v): %v", w, roots, live)
			}
			for _, to := range append(o.Ptrs, roots...) {
				if to != 0 && !isIn(live, to) {
					t.Fatalf("P14.1: Live(%v, %v): %v has not %d", w, roots, live, to)
				}
			}
			sum += 1 + len(o.Ptrs) + len(o.Data)
		}
		if n, e := mark.Words(w, roots); n != sum || e != api.OK {
			t.Fatalf("P14.1: Words(%v, %v): %d, error %d; want %d", w, roots, n, e, sum)
		}
		if len(live) <= rootsMost && !slices.Equal(mustLive(t, w, live), live) {
			t.Fatalf("P14.1: Live(%v, %v), by what it tells: another list", w, live)
		}
	}
}

// By all objects as roots the whole heap lives.
func TestAllLive(t *testing.T) {
	c := chance(54)
	for range 2000 {
		w, at := heapOf(&c, c.next(rootsMost+1))
		tells(t, "a whole heap", w, at, at, len(w)-1, api.OK)
		slices.Reverse(at)
		tells(t, "a whole heap", w, at, slices.Sorted(slices.Values(at)), len(w)-1, api.OK)
	}
}
