package merge_test

import (
	"iter"
	"slices"
	"testing"

	"dunnage/api"
	"dunnage/merge"
)

// behind stands in the room behind each list that is given.
var behind = api.Entry{Key: "room behind", Ref: api.Ref{Serial: 77}}

// give is lists in new memory, with room behind each of them, and behind all.
func give(l [][]api.Entry) [][]api.Entry {
	given := make([][]api.Entry, 0, len(l)+3)
	for _, x := range l {
		given = append(given, append(slices.Grow(slices.Clone(x), 3), behind, behind, behind)[:len(x)])
	}
	return append(given, list(7, "behind"), nil, nil)[:len(l)]
}

// stays: is what was given as it was, with the room behind its ends?
func stays(given, l [][]api.Entry) bool {
	room := given[:len(l)+3][len(l):]
	if len(given) != len(l) || !slices.Equal(room[0], list(7, "behind")) || room[1] != nil || room[2] != nil {
		return false
	}
	for i, x := range given {
		if !slices.Equal(x, l[i]) || !slices.Equal(x[:len(x)+3][len(x):], []api.Entry{behind, behind, behind}) {
			return false
		}
	}
	return true
}

func refusedAll(t *testing.T, l [][]api.Entry) iter.Seq[api.Entry] {
	t.Helper()
	all, e := merge.All(l)
	if e != api.ErrForm || all == nil {
		t.Fatalf("P12.1: All of %s: error %d, nil: %v; want ErrForm", toldAll(l), e, all == nil)
	}
	return all
}

func refusedWalk(t *testing.T, a, b []api.Entry) iter.Seq2[api.Entry, api.Entry] {
	t.Helper()
	both, e := merge.Walk(a, b)
	if e != api.ErrForm || both == nil {
		t.Fatalf("P12.1: Walk of %s, %s: error %d, nil: %v; want ErrForm", told(a), told(b), e, both == nil)
	}
	return both
}

// askAll makes each call of these lists, of which there are two at least, and goes through all that it answers.
func askAll(l [][]api.Entry) {
	for _, x := range l {
		merge.Check(x)
	}
	merge.Merge(l)
	all, _ := merge.All(l)
	both, _ := merge.Walk(l[0], l[1])
	for range 2 {
		for range all {
		}
		for range both {
		}
	}
}

// R3: what is handed in stays, with the room behind its ends, whether it is refused or not.
func TestWhatIsHandedInStays(t *testing.T) {
	c := chance(51)
	for range 1000 {
		l := anyLists(&c, 2+c.next(listsMost), names())
		given := give(l)
		askAll(given)
		if !stays(given, l) {
			t.Fatalf("R3: %s is written into", toldAll(l))
		}
	}
	for what, bad := range bads() {
		for _, l := range [][][]api.Entry{lists(bad, nil), lists(list(1, "a"), bad), slices.Repeat(lists(bad), listsMost+1)} {
			given := give(l)
			askAll(given)
			if !stays(given, l) {
				t.Fatalf("R3: %s is written into", what)
			}
		}
	}
}

// R3: what Merge answers is new memory: who writes into it, and into the room behind it, changes neither the lists, nor another answer, nor a sequence.
func TestWhatIsAnsweredIsNewMemory(t *testing.T) {
	c := chance(52)
	for round := range 1000 {
		l := anyLists(&c, 1+c.next(listsMost), names())
		if round%4 == 0 { // of one list, too, though it is that list
			l = l[:1]
		}
		given := give(l)
		want := merged(l)
		all := mustAll(t, given)
		one, other := mustMerge(t, given), mustMerge(t, given)
		for i := range one[:cap(one)] {
			one[:cap(one)][i] = entry(99, "spoilt")
		}
		if !stays(given, l) {
			t.Fatalf("R3: who writes into what Merge answered of %s writes into them", toldAll(l))
		}
		if !slices.Equal(other, want) || !slices.Equal(slices.Collect(all), want) || !slices.Equal(mustMerge(t, given), want) {
			t.Fatalf("R3: who writes into what Merge answered of %s changes another answer", toldAll(l))
		}
		ruin(given)
		if !slices.Equal(other, want) {
			t.Fatalf("R3: who writes into %s changes what Merge answered", toldAll(l))
		}
	}
}

// R3: what is gathered from a sequence is the gatherer's own.
func TestGatheredEntriesAreTheGatherers(t *testing.T) {
	all, want := mustAll(t, some()), merged(some())
	for range 2 {
		l := slices.Collect(all)
		if !slices.Equal(l, want) {
			t.Fatalf("R3: who writes into what he gathered changes the sequence: %s", told(l))
		}
		ruin(lists(l))
	}
}

// Lists that lie in one memory, one behind the other or one in the other, are lists like others.
func TestListsOfOneMemory(t *testing.T) {
	memory := list(1, "a", "b", "c", "d", "e")
	was := slices.Clone(memory)
	for from := range 6 {
		for to := from; to <= 5; to++ {
			l := lists(memory[from:to], memory[:from], memory[to:], memory)
			if got := mustMerge(t, l); !slices.Equal(got, was) {
				t.Fatalf("P12.1: Merge of parts of one memory: %s", told(got))
			}
			if got, want := twos(mustWalk(t, memory[:to], memory[from:])), walked(was[:to], was[from:]); !slices.Equal(got, want) {
				t.Fatalf("P12.1: Walk of parts of one memory: %s; want %s", toldTwos(got), toldTwos(want))
			}
		}
	}
	if !slices.Equal(memory, was) {
		t.Error("R3: the memory of the lists is written into")
	}
}

// R3: nil and an empty list are the same.
func TestNilAndEmpty(t *testing.T) {
	none, a := []api.Entry{}, list(1, "a", "b")
	if merge.Check(nil) != api.OK || merge.Check(none) != api.OK {
		t.Error("R3: Check of no entries")
	}
	for _, l := range [][][]api.Entry{nil, {}, {nil}, {none}, {none, nil}} {
		if got := mustMerge(t, l); len(got) != 0 {
			t.Errorf("R3: Merge of nothing: %s", told(got))
		}
	}
	for _, x := range lists(nil, none) {
		if got := mustMerge(t, lists(x, a, x)); !slices.Equal(got, a) {
			t.Errorf("R3: Merge with nothing: %s", told(got))
		}
		if got := twos(mustWalk(t, a, x)); !slices.Equal(got, walked(a, nil)) {
			t.Errorf("R3: Walk with nothing: %s", toldTwos(got))
		}
		if got := twos(mustWalk(t, x, a)); !slices.Equal(got, walked(nil, a)) {
			t.Errorf("R3: Walk of nothing: %s", toldTwos(got))
		}
	}
}
