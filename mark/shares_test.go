package mark_test

import (
	"slices"
	"sync"
	"testing"

	"dunnage/api"
	"dunnage/mark"
)

// give is words, or roots, in new memory, with room behind them in which something stands.
func give[T uint32 | int](l []T) []T {
	return append(slices.Grow(slices.Clone(l), 3), 77, 78, 79)[:len(l)]
}

// stays: is what was given as it was, with the room behind its end?
func stays[T uint32 | int](given, l []T) bool {
	return slices.Equal(given, l) && slices.Equal(given[:len(l)+3][len(l):], []T{77, 78, 79})
}

// spoil writes into all of a list, and into the room behind it.
func spoil[T uint32 | int](l []T, v T) {
	for i := range l[:cap(l)] {
		l[:cap(l)][i] = v
	}
}

// R3: what is handed in stays, with the room behind its ends, whether it is refused or not.
func TestWhatIsHandedInStays(t *testing.T) {
	c := chance(41)
	for range 3000 {
		w, at := heapOf(&c, c.next(8))
		if c.next(3) == 0 {
			w[c.next(len(w))] = uint32(c.next(1 << 20))
		}
		roots := rootsOf(&c, at)
		w1, r1 := give(w), give(roots)
		mark.Live(w1, r1)
		mark.Words(w1, r1)
		mark.Live(w1, r1[:0])
		for from := range min(len(w), 6) {
			mark.Reaches(w1, from, c.next(len(w)))
		}
		if !stays(w1, w) || !stays(r1, roots) {
			t.Fatalf("R3: %v, %v are written into: %v, %v", w, roots, w1, r1)
		}
	}
}

// R3: what Live answers is new memory: who writes into it, or into the room behind it, changes neither words nor roots nor another answer; nor does who writes into these change it.
func TestLiveIsNewMemory(t *testing.T) {
	c := chance(42)
	for range 2000 {
		w, at := heapOf(&c, 1+c.next(8))
		roots := goodRoots(&c, at)
		w1, r1 := give(w), give(roots)
		want, _, _ := liveOf(w, roots)
		one, other := mustLive(t, w1, r1), mustLive(t, w1, r1)
		spoil(one, -5)
		if !stays(w1, w) || !stays(r1, roots) || !slices.Equal(other, want) {
			t.Fatalf("R3: who writes into what Live(%v, %v) answered changes something else", w, roots)
		}
		if again := mustLive(t, w1, r1); !slices.Equal(again, want) {
			t.Fatalf("R3: who writes into what Live(%v, %v) answered changes the next answer: %v", w, roots, again)
		}
		spoil(w1, 4242)
		spoil(r1, 4242)
		if !slices.Equal(other, want) {
			t.Fatalf("R3: who writes into words and roots changes what Live(%v, %v) answered: %v", w, roots, other)
		}
	}
}

// R3: Live by roots that are all that lives, and rise: still new memory.
func TestLiveIsNotItsRoots(t *testing.T) {
	w, at := graph(0, nil, nil, nil)
	roots := slices.Clone(at[1:])
	spoil(mustLive(t, w, roots), -1)
	if !slices.Equal(roots, at[1:]) {
		t.Errorf("R3: who writes into what Live answered writes into the roots: %v", roots)
	}
}

// R2: nothing is kept: a call tells the words as they are then.
func TestNothingIsKept(t *testing.T) {
	w, roots := example(), places(1)
	tells(t, "the example", w, roots, places(1, 4), 4, api.OK)
	if is, e := mark.Reaches(w, 1, 4); !is || e != api.OK {
		t.Errorf("P14.2: Reaches of the example: %v, error %d", is, e)
	}
	w[2] = 0
	tells(t, "the example without a pointer", w, roots, places(1), 3, api.OK)
	if is, e := mark.Reaches(w, 1, 4); is || e != api.OK {
		t.Errorf("R2: Reaches tells what was: %v, error %d", is, e)
	}
	roots[0] = 4
	tells(t, "the example without a pointer", w, roots, places(4), 1, api.OK)
	w[2] = 2
	tells(t, "the example with a pointer that may not be", w, roots, nil, 0, api.ErrForm)
}

// R3: nil and an empty list are the same.
func TestNilAndEmpty(t *testing.T) {
	for _, roots := range [][]int{nil, {}} {
		tells(t, "nil", nil, roots, nil, 0, api.ErrForm)
		tells(t, "no word", words(), roots, nil, 0, api.ErrForm)
		tells(t, "the example", example(), roots, nil, 0, api.OK)
	}
}

// R2: calls at the same time, on the same words, know nothing of one another, and answer alike each time.
func TestSideBySide(t *testing.T) {
	c := chance(43)
	w, at := heapOf(&c, 60)
	var work sync.WaitGroup
	bad := make([]bool, 8)
	for i := range bad {
		work.Go(func() {
			roots := places(at[i], at[59-i])
			live, sum, _ := liveOf(w, roots)
			for range 100 {
				l, e := mark.Live(w, roots)
				n, f := mark.Words(w, roots)
				is, g := mark.Reaches(w, at[i], at[59-i])
				want := isPlace(living(w, roots[:1]), at[59-i])
				bad[i] = bad[i] || !slices.Equal(l, live) || n != sum || is != want || e != api.OK || f != api.OK || g != api.OK
			}
		})
	}
	work.Wait()
	if slices.Contains(bad, true) {
		t.Error("R2: calls side by side answer something else")
	}
}
