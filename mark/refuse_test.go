package mark_test

import (
	"math"
	"slices"
	"testing"

	"dunnage/api"
	"dunnage/cells"
	"dunnage/mark"
)

// noHeaps is words that are no heap.
func noHeaps() map[string][]uint32 {
	return map[string][]uint32{
		"nil":                            nil,
		"no word":                        words(),
		"a word 0 that is not 0":         words(1, hd(1, 0, 0)),
		"a word 0 alone that is not 0":   words(hd(1, 0, 0)),
		"no head at once":                words(0, 0, hd(1, 0, 0)),
		"no head behind an object":       words(0, hd(2, 1, 0), 1, 7),
		"a size below pointers and one":  words(0, hd(1, 0, 0), hd(2, 2, 0), 1),
		"an object over the end":         words(0, hd(1, 0, 0), hd(3, 0, 0), 0),
		"a pointer into an object":       words(0, hd(3, 1, 0), 2, 0),
		"a pointer to the end":           words(0, hd(2, 1, 0), 3),
		"a pointer over the end":         words(0, hd(2, 1, 0), 1<<32-1),
		"a pointer of one that is dead":  words(0, hd(1, 0, 0), hd(2, 1, 0), 3),
		"the last pointer of a last one": words(0, hd(1, 0, 0), hd(4, 3, 0), 1, 2, 3),
	}
}

// nowhere is places that no heap has.
func nowhere() []int {
	return []int{math.MinInt, math.MinInt + 1, math.MinInt32, -1 << 32, -4096, -2, -1, 1 << 20, 1<<20 + 1, 1<<31 - 1, 1 << 31, 1 << 32, 1<<32 + 1, 1 << 52, math.MaxInt - 1, math.MaxInt}
}

// Words that are no heap: cells.Check's error of each of the three, whatever the roots and places are (R5: it is named first).
func TestOfNoHeap(t *testing.T) {
	for what, w := range noHeaps() {
		if e := cells.Check(w, nil); e != api.ErrForm {
			t.Fatalf("cells.Check of %s: error %d", what, e)
		}
		for _, roots := range [][]int{nil, {}, {0}, {1}, {1, 2}, {-1}, make([]int, rootsMost+1)} {
			tells(t, what, w, roots, nil, 0, api.ErrForm)
		}
		for _, from := range append(nowhere(), 0, 1, 2, 3) {
			for _, to := range append(nowhere(), 0, 1, 2, 3) {
				if is, e := mark.Reaches(w, from, to); is || e != api.ErrForm {
					t.Fatalf("P14.2: Reaches of %s from %d to %d: %v, error %d; want ErrForm", what, from, to, is, e)
				}
			}
		}
	}
}

// A root that is no object's place, at each place among the roots.
func TestOfRootsThatAreNone(t *testing.T) {
	w := words(0, hd(2, 1, 0), 3, hd(3, 2, 0), 1, 3, hd(1, 0, 0))
	for _, bad := range append(nowhere(), 2, 4, 5, 7, 8) {
		for n := 1; n <= rootsMost; n++ {
			for i := range n {
				roots := slices.Repeat([]int{3}, n)
				roots[i] = bad
				tells(t, "three objects", w, roots, nil, 0, api.ErrForm)
			}
		}
	}
	tells(t, "three objects", w, slices.Repeat([]int{3}, rootsMost), places(1, 3), 5, api.OK)
}

// Words and roots by chance, most of them nearly right: the three answer by the model.
func TestOfAnyWords(t *testing.T) {
	c := chance(31)
	heaps := 0
	for range 20000 {
		w, at := heapOf(&c, c.next(6))
		for range c.next(3) {
			w[c.next(len(w))] = hd(c.next(5), c.next(4), c.next(16)) / uint32(1+4095*c.next(2))
		}
		w = w[:len(w)-min(len(w), c.next(12)/10)]
		if checked(w, nil) == api.OK {
			heaps++
		}
		same(t, "words by chance", w, rootsOf(&c, at))
		sameWay(t, "words by chance", w, c.next(12)-1, c.next(12)-1)
	}
	if heaps < 3000 || heaps > 17000 {
		t.Errorf("the model's words: %d are heaps", heaps)
	}
}
