package cells_test

import (
	"slices"
	"testing"

	"dunnage/api"
	"dunnage/cells"
)

// give is words, or roots, in new memory, with room behind them in which something stands.
func give[T uint32 | int](l []T) []T {
	return append(slices.Grow(slices.Clone(l), 3), 77, 78, 79)[:len(l)]
}

// stays: is what was given as it was, with the room behind its end?
func stays[T uint32 | int](given, l []T) bool {
	return slices.Equal(given, l) && slices.Equal(given[:len(l)+3][len(l):], []T{77, 78, 79})
}

// R3: what is handed in stays, with the room behind its ends, whether it is refused or not.
func TestWhatIsHandedInStays(t *testing.T) {
	c := chance(41)
	for range 3000 {
		w, roots := wordsOf(&c), []int{c.next(9) - 1, c.next(9), 1}
		w1, r1 := give(w), give(roots)
		cells.Check(w1, r1)
		cells.Check(w1, r1[:0])
		for range cells.All(w1) {
		}
		for at := range len(w) + 1 {
			cells.At(w1, at)
		}
		if !stays(w1, w) || !stays(r1, roots) {
			t.Fatalf("R3: %v, %v are written into: %v, %v", w, roots, w1, r1)
		}
	}
}

// R3: the lists of an object are new memory: who writes into them, or into the room behind them, changes neither the words, nor each other, nor another answer; nor does who writes into the words change them.
func TestAnObjectIsNewMemory(t *testing.T) {
	c := chance(42)
	for range 500 {
		w, places := heapOf(&c, 1+c.next(6))
		given := give(w)
		for _, at := range places {
			want, _ := found(w, at)
			one, _ := cells.At(given, at)
			other, _ := cells.At(given, at)
			for i := range one.Ptrs[:cap(one.Ptrs)] {
				one.Ptrs[:cap(one.Ptrs)][i] = -5
			}
			if !slices.Equal(one.Data, want.Data) {
				t.Fatalf("R3: who writes into pointers of At(%v, %d) writes into the words beside them", w, at)
			}
			spoil(one.Data, 12345)
			if !stays(given, w) {
				t.Fatalf("R3: who writes into what At(%v, %d) answered writes into the words", w, at)
			}
			if again, e := cells.At(given, at); e != api.OK || !sameObject(other, want) || !sameObject(again, want) {
				t.Fatalf("R3: who writes into what At(%v, %d) answered changes another answer", w, at)
			}
		}
		at := places[len(places)-1]
		want, _ := found(w, at)
		o, _ := cells.At(given, at)
		spoil(given, 4242)
		if !sameObject(o, want) {
			t.Fatalf("R3: who writes into the words changes what At(%v, %d) answered: %v", w, at, o)
		}
	}
}

// R3: what was given is not kept: a call tells the words as they are then.
func TestNothingIsKept(t *testing.T) {
	w := example()
	roots := []int{1}
	if cells.Check(w, roots) != api.OK {
		t.Fatal("P13.2: Check of the example")
	}
	w[2], roots[0] = 2, 2
	if cells.Check(w, nil) != api.ErrForm || cells.Check(example(), roots) != api.ErrForm {
		t.Error("R2: Check tells what was")
	}
	w[1] = hd(4, 1, 3)
	o, e := cells.At(w, 1)
	if want := (api.Object{Kind: 3, Ptrs: []int{2}, Data: words(9, 4096)}); e != api.OK || !sameObject(o, want) {
		t.Errorf("R2: At tells what was: %v, error %d", o, e)
	}
	if got := allOf(t, w); !slices.Equal(got, []seen{{1, w[1]}}) {
		t.Errorf("R2: All tells what was: %v", got)
	}
}

// R3: nil and an empty list are the same.
func TestNilAndEmpty(t *testing.T) {
	if cells.Check(nil, nil) != cells.Check(words(), []int{}) {
		t.Error("R3: Check of nothing")
	}
	if cells.Check(example(), nil) != api.OK || cells.Check(example(), []int{}) != api.OK {
		t.Error("R3: Check without roots")
	}
	if len(allOf(t, nil)) != 0 || len(allOf(t, words())) != 0 {
		t.Error("R3: All of nothing")
	}
}
