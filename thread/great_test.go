package thread_test

import (
	"slices"
	"testing"

	"dunnage/api"
)

// pairsOf is a heap of so many words, an object of a pointer and a kind for two words (and one more word in the last, if they are not even); to says whither the i-th of n points, by number (-1: nowhere).
func pairsOf(n int, to func(i, n int) int) ([]uint32, []int) {
	w, at, many := make([]uint32, n), []int(nil), (n-1)/2
	for i := range many {
		place := 1 + 2*i
		at = append(at, place)
		w[place] = hd(2, 1, i%16)
		if k := to(i, many); k >= 0 && k < many {
			w[place+1] = uint32(1 + 2*k)
		}
	}
	if n%2 == 0 {
		w[at[many-1]] += hd(1, 0, 0)
	}
	return w, at
}

// Heaps of as many words as may be: chains and rings, of which all lives, or some, or nothing.
func TestGreatHeaps(t *testing.T) {
	ways := []struct {
		what string
		to   func(i, n int) int
	}{
		{"a chain up", func(i, n int) int { return i + 1 }},
		{"a chain down", func(i, n int) int { return i - 1 }},
		{"a chain of every other one, up", func(i, n int) int { return i + 2 }},
		{"a chain of every other one, down", func(i, n int) int { return i - 2 }},
		{"a ring", func(i, n int) int { return (i + 7) % n }},
		{"all to themselves, or to one", func(i, n int) int { return []int{i, 9}[i%2] }},
		{"all to the last one", func(i, n int) int { return n - 1 }},
	}
	for i, way := range ways {
		t.Run(way.what, func(t *testing.T) {
			t.Parallel()
			w, at := pairsOf(wordsMost-i%2, way.to)
			n := len(at)
			same(t, way.what, w, places(at[n/2], 0, at[n/2]))
			same(t, way.what, w, places(at[n-1], at[0], at[1]))
			same(t, way.what, w, at[n-rootsMost:])
		})
	}
	w, _ := pairsOf(wordsMost, ways[0].to)
	tells(t, "a great heap without roots", w, nil, answer{w: words(0)})
	got := same(t, "all of a great heap", w, places(1))
	if !slices.Equal(got.w, w) {
		t.Error("P15.1: all of a great heap lives, and it is another one")
	}
	w, _ = pairsOf(wordsMost+1, ways[0].to)
	tells(t, "too many words", w, places(1), answer{e: api.ErrForm})
	tells(t, "too many words", w, nil, answer{e: api.ErrForm})
}

// Objects of as many words and pointers as may be, that stay and that go down by one.
func TestGreatObjects(t *testing.T) {
	for kind := range kindMost + 1 {
		w := make([]uint32, wordsMost)
		w[1] = hd(sizeMost, ptrsMost, kind)
		w[2], w[256], w[257], w[wordsMost-1] = 1, 1, 1, 1<<32-1
		tells(t, "the greatest object", w, places(1), answer{w, places(1), went(1, 1), api.OK})
		w[1], w[2], w[3] = hd(1, 0, 15-kind), hd(sizeMost-1, ptrsMost, kind), 2
		w[256], w[257], w[258] = 0, 1, 2
		got := tells(t, "a great object and a small one", w, places(2), answer{w, places(2), went(1, 1, 2, 2), api.OK})
		if got.w[257] != 1 {
			t.Error("P15.1: the last pointer of a great object")
		}
		w[257] = 2
		want := slices.Delete(slices.Clone(w), 1, 2)
		want[2], want[256] = 1, 1
		tells(t, "a great object behind a dead one", w, places(2, 0, 2), answer{want, places(1, 0, 1), went(2, 1), api.OK})
		tells(t, "a small object ahead of a dead one", w, places(1), answer{words(0, w[1]), places(1), went(1, 1), api.OK})
	}
}

// As many objects as may be: all of one word; those that live go down by more than their size.
func TestManyObjects(t *testing.T) {
	w := make([]uint32, wordsMost)
	for i := range w[1:] {
		w[1+i] = hd(1, 0, i%16)
	}
	var roots, to []int
	for i := range rootsMost {
		roots, to = append(roots, wordsMost-1-i*i*4000), append(to, rootsMost-i)
	}
	a := same(t, "as many objects as may be", w, roots)
	if len(a.w) != rootsMost+1 || !slices.Equal(a.roots, to) {
		t.Errorf("P15.1: of as many objects as may be: %v", a)
	}
}
