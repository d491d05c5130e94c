package thread_test

import (
	"math"
	"slices"
	"testing"

	"dunnage/api"
	"dunnage/thread"
)

func TestFollow(t *testing.T) {
	l := went(3, 1, 5, 3, 12, 4)
	twice := went(7, 2, 9, 5, 7, 6, 9, 8, 7, 2)
	odd := went(0, 8, -4, 9, 6, 0, 6, 5, math.MaxInt, math.MinInt, math.MinInt, math.MaxInt, 2, -3)
	rows := []struct {
		what     string
		l        []api.Pos
		at, want int
	}{
		{"example 1", l, 3, 1},
		{"example 1", l, 5, 3},
		{"the last one", l, 12, 4},
		{"a To that is no From", l, 1, 0},
		{"a To that is no From", l, 4, 0},
		{"no place of it", l, 2, 0},
		{"no place of it", l, 0, 0},
		{"no place of it", l, -3, 0},
		{"no place of it", l, 13, 0},
		{"no place of it", l, math.MaxInt, 0},
		{"no place of it", l, math.MinInt, 0},
		{"nil", nil, 3, 0},
		{"nil", nil, 0, 0},
		{"an empty list", []api.Pos{}, 1, 0},
		{"one twice", twice, 7, 2},
		{"one twice", twice, 9, 5},
		{"any numbers", odd, 0, 8},
		{"any numbers", odd, -4, 9},
		{"any numbers, the first 0", odd, 6, 0},
		{"any numbers", odd, math.MaxInt, math.MinInt},
		{"any numbers", odd, math.MinInt, math.MaxInt},
		{"any numbers", odd, 2, -3},
		{"a list that falls", went(9, 1, 5, 2, 3, 7), 3, 7},
		{"a list that falls", went(9, 1, 5, 2, 3, 7), 9, 1},
	}
	for _, r := range rows {
		if got := thread.Follow(r.l, r.at); got != r.want {
			t.Errorf("P15.2: Follow of %s, %v, %d: %d; want %d", r.what, r.l, r.at, got, r.want)
		}
	}
}

// All short lists of small numbers, and each place: the first of the list counts.
func TestFollowOfShortLists(t *testing.T) {
	shortLists(6, places(0, 1, 2, 3), func(numbers []int) {
		l := went(numbers...)
		for at := -1; at <= 4; at++ {
			want, found := 0, false
			for _, p := range l {
				if p.From == at && !found {
					want, found = p.To, true
				}
			}
			if got := thread.Follow(l, at); got != want {
				t.Fatalf("P15.2: Follow(%v, %d): %d; want %d", l, at, got, want)
			}
		}
	})
}

// Follow of what Compact told: each place of what lives leads to where the same object is now, each other place nowhere; roots are followed alike.
func TestFollowOfMoves(t *testing.T) {
	c := chance(61)
	for range 3000 {
		w, at := heapOf(&c, c.next(10))
		roots := rootsOf(&c, at)
		a := same(t, "objects by chance", w, roots)
		live := living(w, roots)
		for x := -1; x <= len(w); x++ {
			i := slices.IndexFunc(live, func(o thing) bool { return o.at == x })
			to := thread.Follow(a.moved, x)
			if i < 0 && to != 0 || i >= 0 && (to < 1 || a.w[to] != live[i].head) {
				t.Fatalf("P15.2: Follow of %v, %d: %d", a.moved, x, to)
			}
		}
		for i, x := range roots {
			if to := thread.Follow(a.moved, x); to != a.roots[i] {
				t.Fatalf("P15.2: the root %d went to %d, Follow: %d", x, a.roots[i], to)
			}
		}
	}
}

// R3: Follow does not write into its list.
func TestFollowKeepsItsList(t *testing.T) {
	l := append(slices.Grow(went(9, 1, 5, 2, 5, 7), 2), went(4, 4, 6, 6)...)[:3]
	for _, at := range places(9, 5, 4, 0) {
		thread.Follow(l, at)
	}
	if !slices.Equal(l[:5], went(9, 1, 5, 2, 5, 7, 4, 4, 6, 6)) {
		t.Errorf("R3: Follow wrote into its list: %v", l[:5])
	}
	if got := thread.Follow(l, 4); got != 0 {
		t.Errorf("P15.2: Follow looks behind its list's end: %d", got)
	}
}
