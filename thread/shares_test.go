package thread_test

import (
	"slices"
	"sync"
	"testing"

	"dunnage/api"
	"dunnage/thread"
)

// give is words, or roots, in new memory, with room behind them in which something stands.
func give[T uint32 | int](l []T) []T {
	return append(slices.Grow(slices.Clone(l), 3), 77, 78, 79)[:len(l)]
}

// stays: is what was given as it was, with the room behind its end?
func stays[T uint32 | int](given, l []T) bool {
	return slices.Equal(given, l) && slices.Equal(given[:len(l)+3][len(l):], []T{77, 78, 79})
}

// spoil writes into all of a list, and into the room behind it.
func spoil[T uint32 | int | api.Pos](l []T, v T) {
	for i := range l[:cap(l)] {
		l[:cap(l)][i] = v
	}
}

func (a answer) clone() answer {
	return answer{slices.Clone(a.w), slices.Clone(a.roots), slices.Clone(a.moved), a.e}
}

// R3: what is handed in stays, with the room behind its ends, whether it is refused or not.
func TestWhatIsHandedInStays(t *testing.T) {
	c := chance(41)
	for range 3000 {
		w, at := heapOf(&c, c.next(8))
		if c.next(3) == 0 {
			w[c.next(len(w))] = uint32(c.next(1 << 20))
		}
		roots := rootsOf(&c, at)
		w1, r1 := give(w), give(roots)
		thread.Compact(w1, r1)
		thread.Compact(w1, r1[:0])
		thread.Compact(w1, nil)
		thread.Compact(w1[:len(w1)-1], r1)
		if !stays(w1, w) || !stays(r1, roots) {
			t.Fatalf("R3: %v, %v are written into: %v, %v", w, roots, w1, r1)
		}
	}
}

// R3: what Compact answers is new memory: who writes into one of its lists, or into the room behind it, changes neither the other two, nor words and roots, nor another answer; nor does who writes into these change it.
func TestAnswersAreNewMemory(t *testing.T) {
	c := chance(42)
	for i := range 3000 {
		w, at := heapOf(&c, 1+c.next(8))
		roots := rootsOf(&c, at)
		if i%3 == 0 { // all lives, and nothing moves
			roots = at
		}
		w1, r1 := give(w), give(roots)
		want := slid(w, roots)
		one, other := compacted(w1, r1), compacted(w1, r1)
		spoil(one.w, 4242)
		if !slices.Equal(one.roots, want.roots) || !slices.Equal(one.moved, want.moved) {
			t.Fatalf("R3: who writes into the words that Compact(%v, %v) answered changes its other lists", w, roots)
		}
		spoil(one.roots, -5)
		if !slices.Equal(one.moved, want.moved) {
			t.Fatalf("R3: who writes into the roots that Compact(%v, %v) answered changes its list of places", w, roots)
		}
		spoil(one.moved, api.Pos{From: -7, To: -7})
		if !stays(w1, w) || !stays(r1, roots) || !alike(other, want) {
			t.Fatalf("R3: who writes into what Compact(%v, %v) answered changes something else", w, roots)
		}
		if again := compacted(w1, r1); !alike(again, want) {
			t.Fatalf("R3: who writes into what Compact(%v, %v) answered changes the next answer: %v", w, roots, again)
		}
		spoil(w1, 4242)
		spoil(r1, 4242)
		if !alike(other, want) {
			t.Fatalf("R3: who writes into words and roots changes what Compact(%v, %v) answered: %v", w, roots, other)
		}
	}
}

// R2: nothing is kept: a call tells the words and roots as they are then.
func TestNothingIsKept(t *testing.T) {
	w, roots := example(), places(3)
	a := same(t, "the example", w, roots)
	was := a.clone()
	w[4] = 0
	tells(t, "the example without its pointer", w, roots, answer{words(0, hd(2, 1, 2), 0), places(1), went(3, 1), api.OK})
	roots[0] = 5
	tells(t, "the example, by another root", w, roots, answer{words(0, hd(1, 0, 3)), places(1), went(5, 1), api.OK})
	w[4] = 2
	tells(t, "the example with a pointer that may not be", w, roots, answer{e: api.ErrForm})
	if !alike(a, was) {
		t.Errorf("R3: what was answered first has changed: %v; was %v", a, was)
	}
}

// R3: nil and an empty list are the same.
func TestNilAndEmpty(t *testing.T) {
	for _, roots := range [][]int{nil, {}} {
		tells(t, "nil", nil, roots, answer{e: api.ErrForm})
		tells(t, "no word", words(), roots, answer{e: api.ErrForm})
		tells(t, "the example", example(), roots, answer{w: words(0)})
	}
}

// R2: calls at the same time, on the same words, know nothing of one another, and answer alike each time.
func TestSideBySide(t *testing.T) {
	c := chance(43)
	w, at := heapOf(&c, 60)
	var work sync.WaitGroup
	bad := make([]bool, 8)
	for i := range bad {
		work.Go(func() {
			roots := places(at[i], at[59-i], 0, at[7*i])
			want := slid(w, roots)
			for range 100 {
				bad[i] = bad[i] || !alike(compacted(w, roots), want) || thread.Follow(want.moved, at[i]) != want.roots[0]
			}
		})
	}
	work.Wait()
	if slices.Contains(bad, true) {
		t.Error("R2: calls side by side answer something else")
	}
}
