package queue_test

import (
	"slices"
	"testing"

	"dunnage/queue"
)

// Sorted of all lists of up to six things of three ranks.
func TestSortedOfShortLists(t *testing.T) {
	for n := range 7 {
		lists := 1
		for range n {
			lists *= 3
		}
		for list := range lists {
			l := make([]thing, n)
			for i, left := 0, list; i < n; i, left = i+1, left/3 {
				l[i] = thing{left % 3, i}
			}
			if got, want := queue.Sorted(l, byRank), plainSorted(l, byRank); !slices.Equal(got, want) {
				t.Fatalf("P8.2: Sorted(%v): %v; want %v", l, got, want)
			}
		}
	}
}

// Sorted of long lists is what the library's own stable sorting makes of them.
func TestSortedOfLongLists(t *testing.T) {
	c := chance(6)
	for _, n := range []int{100, 1023, 1024, 1025, 50000} {
		for _, ranks := range []int{1, 2, 30, 1 << 30} {
			l := make([]thing, n)
			for i := range l {
				l[i] = thing{c.next(ranks), i}
			}
			want := slices.Clone(l)
			slices.SortStableFunc(want, func(a, b thing) int { return a.rank - b.rank })
			if got := queue.Sorted(l, byRank); !slices.Equal(got, want) {
				t.Fatalf("P8.2: Sorted of %d things of %d ranks", n, ranks)
			}
		}
	}
}

// Things that are the same are there as often as they were.
func TestSortedKeepsThemAll(t *testing.T) {
	got := queue.Sorted([]int{2, 1, 2, 2, 1, 3, 1, 2}, func(a, b int) bool { return a < b })
	if !slices.Equal(got, []int{1, 1, 1, 2, 2, 2, 2, 3}) {
		t.Errorf("P8.2: Sorted: %v", got)
	}
	if got := queue.Sorted([]int{2, 1, 2, 3, 1}, nil); !slices.Equal(got, []int{2, 1, 2, 3, 1}) {
		t.Errorf("P8.1, P8.2: Sorted, where nothing is below anything: %v", got)
	}
}

func TestSortedOfNothing(t *testing.T) {
	for _, l := range [][]thing{nil, {}, make([]thing, 0, 4)} {
		if got := queue.Sorted(l, byRank); len(got) != 0 {
			t.Errorf("P8.2: Sorted of nothing: %v", got)
		}
		if got := queue.Sorted(l, nil); len(got) != 0 {
			t.Errorf("P8.2: Sorted of nothing, by nothing: %v", got)
		}
	}
}

// R3: what is handed in stays, with the room behind it, and the answer is new memory, where nothing was to be sorted too.
func TestSortedSharesNothing(t *testing.T) {
	for n := range 12 {
		for _, less := range []func(a, b int) bool{nil, func(a, b int) bool { return a < b }, func(a, b int) bool { return a > b }} {
			all := make([]int, n+8)
			for i := range all {
				all[i] = (i*7 + 3) % 10
			}
			was := slices.Clone(all)
			got := queue.Sorted(all[:n], less)
			if !slices.Equal(all, was) {
				t.Fatalf("R3: Sorted changes what it is handed: %v; was %v", all, was)
			}
			kept := slices.Clone(got)
			for i := range all {
				all[i] = -1
			}
			if !slices.Equal(got, kept) {
				t.Fatal("R3: who writes into what Sorted was handed changes its answer")
			}
			copy(all, was)
			got = got[:cap(got)]
			for i := range got {
				got[i] = -2
			}
			if !slices.Equal(all, was) {
				t.Fatal("R3: who writes into Sorted's answer changes what it was handed")
			}
		}
	}
}

// Sorted asks less of the things of l alone.
func TestSortedAsksOfItsThings(t *testing.T) {
	l := []thing{{3, 1}, {1, 2}, {2, 3}, {1, 4}, {9, 5}}
	queue.Sorted(l, func(a, b thing) bool {
		if !slices.Contains(l, a) || !slices.Contains(l, b) {
			t.Errorf("P8.1: less is asked of %v and %v", a, b)
		}
		return a.rank < b.rank
	})
}
