package cells_test

import (
	"slices"
	"testing"

	"dunnage/api"
	"dunnage/cells"
)

// 'What follows': heads of unlike numbers are unlike. All counts and kinds with sizes of single bits, of all bits and about them.
func TestHeadsOfUnlikeNumbers(t *testing.T) {
	type numbers struct{ size, ptrs, kind int }
	of := map[uint32]numbers{}
	sizes := []int{256, 257, 300, sizeMost - 1, sizeMost}
	for bit := 9; bit < 20; bit++ {
		sizes = append(sizes, 1<<bit-1, 1<<bit, 1<<bit+1)
	}
	slices.Sort(sizes)
	for _, size := range slices.Compact(sizes) {
		for p := range ptrsMost + 1 {
			for k := range kindMost + 1 {
				h, is := mustHead(t, size, p, k), numbers{size, p, k}
				if was, twice := of[h]; twice {
					t.Fatalf("what follows: Head of %v and of %v: %#x", was, is, h)
				}
				of[h] = is
			}
		}
	}
}

// Heads rise with size, then pointers, then kind: so no two of all sizes are alike.
func TestHeadsRise(t *testing.T) {
	last := uint32(0)
	for size := 1; size <= sizeMost; size++ {
		for _, p := range slices.Compact([]int{0, min(size, 2) - 1, min(size-1, ptrsMost)}) {
			for _, k := range []int{0, 1, kindMost} {
				h := mustHead(t, size, p, k)
				if h <= last {
					t.Fatalf("what follows: Head(%d, %d, %d): %#x, not above %#x", size, p, k, h, last)
				}
				last = h
			}
		}
	}
}

// 'What follows': a heap of the word 0 alone is one.
func TestTheWord0Alone(t *testing.T) {
	w := words(0)
	if e := cells.Check(w, nil); e != api.OK {
		t.Errorf("what follows: Check of the word 0 alone: error %d", e)
	}
	if e := cells.Check(w, make([]int, rootsMost)); e != api.OK {
		t.Errorf("what follows: Check of the word 0 alone, with roots: error %d", e)
	}
	if got := allOf(t, w); len(got) != 0 {
		t.Errorf("what follows: All of the word 0 alone: %v", got)
	}
}

// Heaps that are put together by Head: All tells each object where it was put, At what was put there, and Check finds nothing.
func TestHeapsOfObjects(t *testing.T) {
	c := chance(51)
	for range 3000 {
		var put []api.Object
		var places []int
		at := 1
		for range c.next(10) {
			o := api.Object{Kind: c.next(16), Ptrs: make([]int, c.next(5))}
			for range c.next(5) {
				o.Data = append(o.Data, c.word())
			}
			put, places = append(put, o), append(places, at)
			at += 1 + len(o.Ptrs) + len(o.Data)
		}
		w := words(0)
		for _, o := range put {
			w = append(w, mustHead(t, 1+len(o.Ptrs)+len(o.Data), len(o.Ptrs), o.Kind))
			for i := range o.Ptrs {
				o.Ptrs[i] = append(places, 0)[c.next(len(places)+1)]
				w = append(w, uint32(o.Ptrs[i]))
			}
			w = append(w, o.Data...)
		}
		if e := cells.Check(w, places); e != api.OK {
			t.Fatalf("P13.2: Check(%v, %v): error %d", w, places, e)
		}
		i := 0
		for at, h := range cells.All(w) {
			o, e := cells.At(w, at)
			if i >= len(put) || at != places[i] || h != w[at] || e != api.OK || !sameObject(o, put[i]) {
				t.Fatalf("P13.2: the object %d of %v, at %d: %v, error %d", i, w, at, o, e)
			}
			if cells.Size(h) != 1+len(o.Ptrs)+len(o.Data) || cells.Ptrs(h) != len(o.Ptrs) || cells.Kind(h) != o.Kind {
				t.Fatalf("P13.1: the head %#x of the object %v", h, o)
			}
			i++
		}
		if i != len(put) {
			t.Fatalf("P13.2: All of %v tells %d; want %d", w, i, len(put))
		}
	}
}
