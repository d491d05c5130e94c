package thread_test

import (
	"math"
	"slices"
	"testing"

	"dunnage/api"
	"dunnage/cells"
)

// noHeaps is words that are no heap.
func noHeaps() map[string][]uint32 {
	return map[string][]uint32{
		"nil":                            nil,
		"no word":                        words(),
		"a word 0 that is not 0":         words(1, hd(1, 0, 0)),
		"a word 0 alone that is not 0":   words(hd(1, 0, 0)),
		"no head at once":                words(0, 0, hd(1, 0, 0)),
		"no head behind an object":       words(0, hd(2, 1, 0), 1, 7),
		"a size below pointers and one":  words(0, hd(1, 0, 0), hd(2, 2, 0), 1),
		"an object over the end":         words(0, hd(1, 0, 0), hd(3, 0, 0), 0),
		"a pointer into an object":       words(0, hd(3, 1, 0), 2, 0),
		"a pointer to the end":           words(0, hd(2, 1, 0), 3),
		"a pointer over the end":         words(0, hd(2, 1, 0), 1<<32-1),
		"a pointer of one that is dead":  words(0, hd(1, 0, 0), hd(2, 1, 0), 3),
		"the last pointer of a last one": words(0, hd(1, 0, 0), hd(4, 3, 0), 1, 2, 3),
	}
}

// nowhere is places that no heap has.
func nowhere() []int {
	return []int{math.MinInt, math.MinInt + 1, math.MinInt32, -1 << 32, -4096, -2, -1, 1 << 20, 1<<20 + 1, 1<<31 - 1, 1 << 31, 1 << 32, 1<<32 + 1, 1 << 52, math.MaxInt - 1, math.MaxInt}
}

// refused: is it cells.Check's error, with nothing else (R4)?
func refused(t *testing.T, what string, w []uint32, roots []int) {
	t.Helper()
	a := tells(t, what, w, roots, answer{e: api.ErrForm})
	if a.e != cells.Check(w, roots) || a.w != nil || a.roots != nil || a.moved != nil {
		t.Fatalf("R4: Compact of %s, by %v: %v", what, roots, a)
	}
}

// Words that are no heap, whatever the roots are.
func TestOfNoHeap(t *testing.T) {
	for what, w := range noHeaps() {
		for _, roots := range [][]int{nil, {}, {0}, {1}, {1, 2}, {-1}, make([]int, rootsMost+1)} {
			refused(t, what, w, roots)
		}
	}
}

// A root that is no object's place, at each place among the roots.
func TestOfRootsThatAreNone(t *testing.T) {
	w := words(0, hd(2, 1, 0), 3, hd(3, 2, 0), 1, 3, hd(1, 0, 0))
	for _, bad := range append(nowhere(), 2, 4, 5, 7, 8) {
		for n := 1; n <= rootsMost; n++ {
			for i := range n {
				roots := slices.Repeat([]int{3}, n)
				roots[i] = bad
				refused(t, "three objects", w, roots)
			}
		}
	}
	same(t, "three objects", w, slices.Repeat([]int{3}, rootsMost))
	refused(t, "three objects and a root too many", w, slices.Repeat([]int{3}, rootsMost+1))
}

// A pointer that may not be is refused, whether its object lives or is dead.
func TestOfPointersThatAreNone(t *testing.T) {
	for _, bad := range words(2, 3, 5, 6, 7, 8, 1<<20, 1<<31, 1<<32-1) {
		w := words(0, hd(3, 2, 0), 4, bad, hd(2, 1, 1), 1)
		for _, roots := range [][]int{nil, {0}, {1}, {4}} {
			refused(t, "two objects", w, roots)
		}
		w[3], w[5] = 0, bad
		for _, roots := range [][]int{nil, {0}, {1}, {4}} {
			refused(t, "two objects", w, roots)
		}
	}
}

// Words and roots by chance, most of them nearly right.
func TestOfAnyWords(t *testing.T) {
	c := chance(31)
	heaps := 0
	for range 20000 {
		w, at := heapOf(&c, c.next(6))
		for range c.next(3) {
			w[c.next(len(w))] = hd(c.next(5), c.next(4), c.next(16)) / uint32(1+4095*c.next(2))
		}
		w = w[:len(w)-min(len(w), c.next(12)/10)]
		roots := rootsOf(&c, at)
		if c.next(6) == 0 {
			roots = append(roots, c.next(30)-3)
		}
		if checked(w, roots) == api.OK {
			heaps++
			same(t, "words by chance", w, roots)
		} else {
			refused(t, "words by chance", w, roots)
		}
	}
	if heaps < 3000 || heaps > 17000 {
		t.Errorf("the model's words: %d are heaps", heaps)
	}
}
