package merge_test

import (
	"slices"
	"testing"

	"dunnage/api"
	"dunnage/merge"
)

func keysOf(l []api.Entry) []string {
	var out []string
	for _, x := range l {
		out = append(out, x.Key)
	}
	return out
}

// 'What follows': Merge of one list is that list, wherever empty ones stand about it.
func TestMergeOfOneList(t *testing.T) {
	c := chance(61)
	for round := range 2000 {
		l := lists(anyList(&c, 1, names()))
		if got := mustMerge(t, l); !slices.Equal(got, l[0]) {
			t.Fatalf("what follows: Merge of one list %s: %s", told(l[0]), told(got))
		}
		full := make([][]api.Entry, listsMost)
		full[round%listsMost] = l[0]
		if got := mustMerge(t, full); !slices.Equal(got, l[0]) {
			t.Fatalf("what follows: Merge of one list %s among empty ones: %s", told(l[0]), told(got))
		}
	}
}

// orders tells each order of these lists.
func orders(l [][]api.Entry, tell func([][]api.Entry)) {
	var more func(done, left [][]api.Entry)
	more = func(done, left [][]api.Entry) {
		if len(left) == 0 {
			tell(done)
		}
		for i, x := range left {
			more(append(slices.Clone(done), x), slices.Delete(slices.Clone(left), i, i+1))
		}
	}
	more(nil, l)
}

// 'What follows': lists in another order have the same keys. (And of each key that entry which the order says.)
func TestMergeInAnotherOrder(t *testing.T) {
	c := chance(62)
	for range 60 {
		l := anyLists(&c, 5, names())
		want := keysOf(mustMerge(t, l))
		orders(l, func(o [][]api.Entry) {
			got := mustMerge(t, o)
			if !slices.Equal(keysOf(got), want) {
				t.Fatalf("what follows: Merge of %s: %s; other keys than in the order %s", toldAll(o), told(got), toldAll(l))
			}
			if !slices.Equal(got, merged(o)) {
				t.Fatalf("P12.1: Merge of %s: %s; want %s", toldAll(o), told(got), told(merged(o)))
			}
		})
	}
	for range 300 {
		l := anyLists(&c, listsMost, names())
		want := keysOf(mustMerge(t, l))
		for range 5 {
			for i := range l {
				j := c.next(i + 1)
				l[i], l[j] = l[j], l[i]
			}
			if got := mustMerge(t, l); !slices.Equal(keysOf(got), want) {
				t.Fatalf("what follows: Merge of %s: %s; other keys than in another order", toldAll(l), told(got))
			}
		}
	}
}

// 'What follows': lists of which some in a row are merged first come to the same, wherever these begin and end.
func TestMergeGroupedOtherwise(t *testing.T) {
	c := chance(63)
	for range 100 {
		l := anyLists(&c, 1+c.next(listsMost), names())
		want := mustMerge(t, l)
		for from := range len(l) {
			for to := from; to <= len(l) && len(l)-(to-from) < listsMost; to++ {
				grouped := append(append(slices.Clone(l[:from]), mustMerge(t, l[from:to])), l[to:]...)
				if got := mustMerge(t, grouped); !slices.Equal(got, want) {
					t.Fatalf("what follows: Merge of %s, from %d to %d merged first: %s; want %s", toldAll(l), from, to, told(got), told(want))
				}
			}
		}
		one := l[0]
		for _, x := range l[1:] {
			one = mustMerge(t, lists(one, x))
		}
		if !slices.Equal(one, want) {
			t.Fatalf("what follows: Merge of %s, one by one: %s; want %s", toldAll(l), told(one), told(want))
		}
	}
}

// By groups more lists than MaxLists come to one.
func TestMergeOfMoreLists(t *testing.T) {
	c := chance(64)
	for range 50 {
		l := anyLists(&c, 1+c.next(listsMost*listsMost), names())
		var groups [][]api.Entry
		for group := range slices.Chunk(l, listsMost) {
			groups = append(groups, mustMerge(t, group))
		}
		if got, want := mustMerge(t, groups), merged(l); !slices.Equal(got, want) {
			t.Fatalf("what follows: %d lists, by groups: %s; want %s", len(l), told(got), told(want))
		}
	}
}

// What is answered may be, and Merge of what is merged with any of its lists is what is merged.
func TestWhatIsMergedMayBe(t *testing.T) {
	c := chance(65)
	for range 500 {
		l := anyLists(&c, 1+c.next(listsMost), names())
		got := mustMerge(t, l)
		if e := merge.Check(got); e != api.OK {
			t.Fatalf("P12.1: Check of what Merge answered: error %d", e)
		}
		for _, x := range l {
			if again := mustMerge(t, lists(got, x)); !slices.Equal(again, got) {
				t.Fatalf("what follows: Merge of what was merged, and of a list of it: %s; want %s", told(again), told(got))
			}
		}
	}
}

// Walk tells of two lists what Merge does: of each key the entry of a, or else that of b; turned about, a's and b's in each other's place.
func TestWalkAndMerge(t *testing.T) {
	c := chance(66)
	for range 2000 {
		a, b := anyList(&c, 1, names()), anyList(&c, 2, names())
		var got []api.Entry
		var about []two
		for x, y := range mustWalk(t, a, b) {
			about = append(about, two{y, x})
			if x == (api.Entry{}) {
				x = y
			}
			got = append(got, x)
		}
		if want := mustMerge(t, lists(a, b)); !slices.Equal(got, want) {
			t.Fatalf("what follows: Walk of %s, %s comes to %s; Merge %s", told(a), told(b), told(got), told(want))
		}
		if back := twos(mustWalk(t, b, a)); !slices.Equal(back, about) {
			t.Fatalf("what follows: Walk of %s, %s, turned about: %s; want %s", told(a), told(b), toldTwos(back), toldTwos(about))
		}
	}
}
