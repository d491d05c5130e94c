package mark_test

import (
	"testing"

	"dunnage/api"
	"dunnage/mark"
)

func TestReaches(t *testing.T) {
	w := words(0, hd(2, 1, 0), 6, hd(3, 0, 1), 1, 6, hd(2, 1, 2), 8, hd(3, 2, 3), 0, 6, hd(2, 1, 4), 11)
	rows := []struct {
		what     string
		w        []uint32
		from, to int
		is       bool
		e        api.Errno
	}{
		{"example 1", example(), 1, 4, true, api.OK},
		{"example 1", example(), 4, 1, false, api.OK},
		{"example 1", example(), 1, 1, true, api.OK},
		{"example 1", example(), 4, 4, true, api.OK},
		{"example 1", example(), 1, 0, false, api.ErrNone},
		{"example 1", example(), 0, 1, false, api.ErrNone},
		{"example 1", example(), 0, 0, false, api.ErrNone},
		{"example 1", example(), 1, 2, false, api.ErrNone},
		{"example 1", example(), 2, 1, false, api.ErrNone},
		{"example 1", example(), 1, 3, false, api.ErrNone},
		{"example 1", example(), 1, 5, false, api.ErrNone},
		{"example 1", example(), 5, 1, false, api.ErrNone},
		{"the word 0", words(0), 0, 0, false, api.ErrNone},
		{"the word 0", words(0), 1, 1, false, api.ErrNone},
		{"one that points to itself", words(0, hd(2, 1, 0), 1), 1, 1, true, api.OK},
		{"one that points to none", words(0, hd(2, 1, 0), 0), 1, 0, false, api.ErrNone},
		{"five objects", w, 1, 8, true, api.OK},
		{"five objects", w, 8, 6, true, api.OK},
		{"five objects", w, 8, 1, false, api.OK},
		{"five objects", w, 3, 1, false, api.OK},
		{"five objects", w, 3, 6, false, api.OK},
		{"five objects", w, 3, 3, true, api.OK},
		{"five objects", w, 11, 8, false, api.OK},
		{"five objects", w, 1, 11, false, api.OK},
		{"no heap", words(0, hd(2, 1, 0), 2), 1, 1, false, api.ErrForm},
		{"no heap", words(0, hd(2, 1, 0), 2), 0, 1, false, api.ErrForm},
		{"no heap", nil, 0, 0, false, api.ErrForm},
	}
	for _, r := range rows {
		if is, e := mark.Reaches(r.w, r.from, r.to); is != r.is || e != r.e {
			t.Errorf("P14.2: Reaches of %s from %d to %d: %v, error %d; want %v, error %d", r.what, r.from, r.to, is, e, r.is, r.e)
		}
		sameWay(t, r.what, r.w, r.from, r.to)
	}
}

// Each pair of places, objects' and others, of heaps by chance, and of each heap of two objects with up to two pointers.
func TestReachesOfEachPair(t *testing.T) {
	pairs := func(w []uint32) {
		for from := -1; from <= len(w)+1; from++ {
			for to := -1; to <= len(w)+1; to++ {
				sameWay(t, "objects", w, from, to)
			}
		}
	}
	c := chance(22)
	for range 200 {
		w, _ := heapOf(&c, c.next(10))
		pairs(w)
	}
	var lists [][]int
	shortLists(2, places(0, 1, 2), func(l []int) { lists = append(lists, l) })
	for _, a := range lists {
		for _, b := range lists {
			w, _ := graph(len(a)%2, a, b)
			pairs(w)
		}
	}
}

// A place that is no object's, as the one, as the other, and as both.
func TestReachesOfNowhere(t *testing.T) {
	w, at := graph(2, places(2), places(1, 3), places(3))
	inside := places(0, at[1]+1, at[1]+2, at[2]-1, at[3]+1, len(w)-1, len(w), len(w)+1)
	for _, bad := range append(nowhere(), inside...) {
		for _, good := range append(at[1:], bad) {
			for _, pair := range [][2]int{{bad, good}, {good, bad}} {
				if is, e := mark.Reaches(w, pair[0], pair[1]); is || e != api.ErrNone {
					t.Errorf("P14.2: Reaches from %d to %d: %v, error %d; want ErrNone", pair[0], pair[1], is, e)
				}
			}
		}
	}
}

// Reaches answers what Live tells of the one root, whatever the heap is.
func TestReachesIsLive(t *testing.T) {
	c := chance(23)
	for range 1000 {
		w, at := heapOf(&c, 1+c.next(10))
		for _, from := range at {
			live, _ := mark.Live(w, places(from))
			for _, to := range at {
				is, e := mark.Reaches(w, from, to)
				if want := isIn(live, to); is != want || e != api.OK {
					t.Fatalf("P14.2: Reaches of %v from %d to %d: %v, error %d; Live tells %v", w, from, to, is, e, live)
				}
			}
		}
	}
}

func isIn(l []int, at int) bool {
	for _, x := range l {
		if x == at {
			return true
		}
	}
	return false
}

func TestReachesOfGreatHeaps(t *testing.T) {
	w, at := chainOf(wordsMost, func(i, n int) int { return i + 1 })
	last, half := at[len(at)-1], at[len(at)/2]
	for _, r := range []struct {
		from, to int
		is       bool
		e        api.Errno
	}{{1, last, true, api.OK}, {last, 1, false, api.OK}, {half, last, true, api.OK}, {half, half - 2, false, api.OK}, {1, last + 1, false, api.ErrNone}, {wordsMost - 1, 1, false, api.ErrNone}, {1, wordsMost, false, api.ErrNone}} {
		if is, e := mark.Reaches(w, r.from, r.to); is != r.is || e != r.e {
			t.Errorf("P14.2: Reaches of a great chain from %d to %d: %v, error %d; want %v, error %d", r.from, r.to, is, e, r.is, r.e)
		}
	}
	w, _ = chainOf(wordsMost+1, func(i, n int) int { return i + 1 })
	if is, e := mark.Reaches(w, 1, 3); is || e != api.ErrForm {
		t.Errorf("P14.2: Reaches of too many words: %v, error %d; want ErrForm", is, e)
	}
}
