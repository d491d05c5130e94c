package thread_test

import (
	"slices"
	"testing"

	"dunnage/api"
	"dunnage/cells"
	"dunnage/mark"
	"dunnage/thread"
)

// looksAlike: is what is seen from one heap's roots on what is seen from the other's? The two are gone through side by side, and each object of the one has one of the other.
func looksAlike(w []uint32, roots []int, v []uint32, others []int) bool {
	if len(roots) != len(others) {
		return false
	}
	there, back := map[int]int{0: 0}, map[int]int{0: 0}
	open := [][2][]int{{roots, others}}
	for len(open) > 0 {
		end := len(open) - 1
		from, to := open[end][0], open[end][1]
		open = open[:end]
		for i, at := range from {
			place, seen := there[at]
			place2, seen2 := back[to[i]]
			if seen != seen2 || seen && (place != to[i] || place2 != at) {
				return false
			}
			if seen {
				continue
			}
			there[at], back[to[i]] = to[i], at
			a, e := cells.At(w, at)
			b, f := cells.At(v, to[i])
			if e != api.OK || f != api.OK || a.Kind != b.Kind || len(a.Ptrs) != len(b.Ptrs) || !slices.Equal(a.Data, b.Data) {
				return false
			}
			open = append(open, [2][]int{a.Ptrs, b.Ptrs})
		}
	}
	return true
}

// looksAlike tells heaps apart that are not alike.
func TestLooksAlike(t *testing.T) {
	w := words(0, hd(3, 1, 2), 4, 9, hd(1, 0, 0))
	for _, r := range []struct {
		v     []uint32
		roots []int
		want  bool
	}{
		{w, places(1, 4), true},
		{words(0, hd(1, 0, 0), hd(3, 1, 2), 1, 9), places(2, 1), true},
		{w, places(1), false},
		{w, places(1, 0), false},
		{w, places(4, 1), false},
		{w, places(1, 1), false},
		{words(0, hd(3, 1, 2), 4, 9, hd(1, 0, 1)), places(1, 4), false},
		{words(0, hd(3, 1, 2), 4, 8, hd(1, 0, 0)), places(1, 4), false},
		{words(0, hd(3, 1, 2), 0, 9, hd(1, 0, 0)), places(1, 4), false},
		{words(0, hd(3, 1, 2), 5, 9, hd(1, 0, 0), hd(1, 0, 0)), places(1, 4), false},
	} {
		if looksAlike(w, places(1, 4), r.v, r.roots) != r.want {
			t.Errorf("%v by 1 and 4, and %v by %v: alike is not %v", w, r.v, r.roots, r.want)
		}
	}
}

// 'What follows': what lives, and what it looks like from the roots on, is the same; no object goes up; the heap that is answered is one, and all of it lives.
func TestWhatIsSeenIsTheSame(t *testing.T) {
	c := chance(51)
	for range 5000 {
		w, at := heapOf(&c, c.next(14))
		roots := rootsOf(&c, at)
		v, r, moved, e := thread.Compact(w, roots)
		if e != api.OK || !looksAlike(w, roots, v, r) {
			t.Fatalf("what follows: %v by %v looks else than %v by %v", w, roots, v, r)
		}
		live, _ := mark.Live(w, roots)
		all, e := mark.Live(v, r)
		if e != api.OK || len(live) != len(moved) || len(all) != len(moved) {
			t.Fatalf("P15.1: Compact(%v, %v): %v, %v, %v", w, roots, v, r, moved)
		}
		end := 1
		for i, p := range moved {
			if p.From != live[i] || p.To != all[i] || p.To > p.From || p.To != end {
				t.Fatalf("P15.1: Compact(%v, %v) tells %v; what lived %v, lives %v", w, roots, moved, live, all)
			}
			end += cells.Size(w[p.From])
		}
		if end != len(v) {
			t.Fatalf("P15.1: Compact(%v, %v): %v does not end with its last object", w, roots, v)
		}
	}
}

// 'What follows': a heap that was compacted is compacted to itself, and nothing of it moves.
func TestCompactTwice(t *testing.T) {
	c := chance(52)
	for range 5000 {
		w, at := heapOf(&c, c.next(14))
		a := compacted(w, rootsOf(&c, at))
		b := compacted(a.w, a.roots)
		if b.e != api.OK || !slices.Equal(a.w, b.w) || !slices.Equal(a.roots, b.roots) || len(a.moved) != len(b.moved) {
			t.Fatalf("what follows: %v is compacted to %v", a, b)
		}
		for i, p := range b.moved {
			if p.From != p.To || p.To != a.moved[i].To {
				t.Fatalf("what follows: of %v, that was compacted, %v moved", a, b.moved)
			}
		}
	}
}

// Compact by some roots, and then by fewer, is Compact by the fewer ones at once; and the second list follows the first.
func TestFewerRoots(t *testing.T) {
	c := chance(53)
	for range 3000 {
		w, at := heapOf(&c, c.next(14))
		roots := rootsOf(&c, at)
		n := c.next(len(roots) + 1)
		one := compacted(w, roots)
		two, once := compacted(one.w, one.roots[:n]), compacted(w, roots[:n])
		if !slices.Equal(two.w, once.w) || !slices.Equal(two.roots, once.roots) || two.e != once.e || len(two.moved) != len(once.moved) {
			t.Fatalf("P15.1: %v by %v, then by %d of them: %v; at once: %v", w, roots, n, two, once)
		}
		for _, p := range once.moved {
			if thread.Follow(two.moved, thread.Follow(one.moved, p.From)) != p.To {
				t.Fatalf("P15.2: %d goes to %d; by %v and %v it does not", p.From, p.To, one.moved, two.moved)
			}
		}
	}
}

// The order of the roots, and one that is there again, change nothing but the roots.
func TestOrderOfRoots(t *testing.T) {
	c := chance(54)
	for range 3000 {
		w, at := heapOf(&c, c.next(14))
		roots := rootsOf(&c, at)
		a := compacted(w, roots)
		others := append(slices.Clone(roots), 0)
		others = append(others, roots...)
		slices.Reverse(others)
		b := compacted(w, others)
		if !slices.Equal(a.w, b.w) || !slices.Equal(a.moved, b.moved) {
			t.Fatalf("P15.1: %v by %v: %v; by %v: %v", w, roots, a, others, b)
		}
		for i, x := range others {
			if b.roots[i] != thread.Follow(a.moved, x) {
				t.Fatalf("P15.1: the roots %v went to %v", others, b.roots)
			}
		}
	}
}
