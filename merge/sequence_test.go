package merge_test

import (
	"slices"
	"sync"
	"testing"

	"dunnage/api"
)

// some is lists in which keys are had by one list, by two, and by all.
func some() [][]api.Entry {
	return lists(list(1, "a", "c", "d", "g"), nil, list(3, "a", "b", "d", "f"), list(4, "a", "e", "g"))
}

// A sequence of All may be left at any entry, and begins at the first one again.
func TestAllIsLeft(t *testing.T) {
	want := merged(some())
	all := mustAll(t, some())
	for at := range len(want) + 1 {
		for range 2 {
			var got []api.Entry
			for x := range all {
				if got = append(got, x); len(got) > at {
					break
				}
			}
			if !slices.Equal(got, want[:min(at+1, len(want))]) {
				t.Fatalf("P12.1: All, left at %d: %s", at, told(got))
			}
		}
		if got := slices.Collect(all); !slices.Equal(got, want) {
			t.Fatalf("P12.1: All, gone through again behind being left at %d: %s", at, told(got))
		}
	}
}

// Likewise one of Walk.
func TestWalkIsLeft(t *testing.T) {
	a, b := list(1, "a", "c", "d", "g"), list(2, "a", "b", "d", "f")
	want := walked(a, b)
	both := mustWalk(t, a, b)
	for at := range len(want) + 1 {
		for range 2 {
			var got []two
			for x, y := range both {
				if got = append(got, two{x, y}); len(got) > at {
					break
				}
			}
			if !slices.Equal(got, want[:min(at+1, len(want))]) {
				t.Fatalf("P12.1: Walk, left at %d: %s", at, toldTwos(got))
			}
		}
		if got := twos(both); !slices.Equal(got, want) {
			t.Fatalf("P12.1: Walk, gone through again behind being left at %d: %s", at, toldTwos(got))
		}
	}
}

// R6: a sequence stops as soon as its function answers false, and asks it no more.
func TestSequencesStop(t *testing.T) {
	all, both := mustAll(t, some()), mustWalk(t, some()[0], some()[2])
	for at := 1; at <= 6; at++ {
		asked := 0
		ask := func() bool {
			if asked++; asked > at {
				t.Fatal("R6: a sequence goes on behind false")
			}
			return asked < at
		}
		all(func(api.Entry) bool { return ask() })
		if asked != at {
			t.Errorf("R6: All, left at %d, tells %d", at, asked)
		}
		asked = 0
		both(func(_, _ api.Entry) bool { return ask() })
		if asked != at {
			t.Errorf("R6: Walk, left at %d, tells %d", at, asked)
		}
	}
}

// A sequence that is gone through in its own midst, or was left by a panic, tells what it would have told.
func TestSequencesInTheMidst(t *testing.T) {
	want, pairs := merged(some()), walked(some()[0], some()[2])
	all, both := mustAll(t, some()), mustWalk(t, some()[0], some()[2])
	var got []api.Entry
	for x := range all {
		got = append(got, x)
		if inner := slices.Collect(all); !slices.Equal(inner, want) {
			t.Fatalf("P12.1: All in the midst of itself: %s", told(inner))
		}
		for range all {
			break
		}
	}
	if !slices.Equal(got, want) {
		t.Errorf("P12.1: All with itself in its midst: %s", told(got))
	}
	var walk []two
	for x, y := range both {
		walk = append(walk, two{x, y})
		if inner := twos(both); !slices.Equal(inner, pairs) {
			t.Fatalf("P12.1: Walk in the midst of itself: %s", toldTwos(inner))
		}
	}
	if !slices.Equal(walk, pairs) {
		t.Errorf("P12.1: Walk with itself in its midst: %s", toldTwos(walk))
	}
	func() {
		defer func() { _ = recover() }()
		for range all {
			panic("left")
		}
	}()
	if got := slices.Collect(all); !slices.Equal(got, want) {
		t.Errorf("P12.1: All behind a panic: %s", told(got))
	}
}

// R2: goings through at the same time know nothing of one another.
func TestSequencesSideBySide(t *testing.T) {
	want, pairs := merged(some()), walked(some()[0], some()[2])
	all, both := mustAll(t, some()), mustWalk(t, some()[0], some()[2])
	var work sync.WaitGroup
	bad := make([]bool, 8)
	for i := range bad {
		work.Go(func() {
			for range 200 {
				bad[i] = bad[i] || !slices.Equal(slices.Collect(all), want) || !slices.Equal(twos(both), pairs)
			}
		})
	}
	work.Wait()
	if slices.Contains(bad, true) {
		t.Error("R2: sequences that are gone through side by side tell something else")
	}
}

// ruin writes into lists whatever it can: into each entry, into the room behind each list, and into the list of lists.
func ruin(l [][]api.Entry) {
	for _, x := range l {
		for i := range x[:cap(x)] {
			x[:cap(x)][i] = entry(99, "0")
		}
	}
	for i := range l[:cap(l)] {
		l[:cap(l)][i] = list(98, "1", "0")
	}
}

// P12.1, R6: sequences tell what was there when they were asked for, whatever is written into the lists behind that.
func TestSequencesTellWhatWasThere(t *testing.T) {
	c := chance(31)
	for range 1000 {
		l := anyLists(&c, 2+c.next(listsMost-1), names())
		want, pairs := merged(l), walked(l[0], l[1])
		given := give(l)
		all, both := mustAll(t, given), mustWalk(t, given[0], given[1])
		ruin(given)
		if got := slices.Collect(all); !slices.Equal(got, want) {
			t.Fatalf("P12.1: All of %s, behind writing into them: %s; want %s", toldAll(l), told(got), told(want))
		}
		if got := twos(both); !slices.Equal(got, pairs) {
			t.Fatalf("P12.1: Walk of %s, behind writing into them: %s; want %s", toldAll(l[:2]), toldTwos(got), toldTwos(pairs))
		}
	}
}

// Likewise what is written while a sequence is gone through, and between two goings through.
func TestSequencesWhileListsAreWritten(t *testing.T) {
	want, pairs := merged(some()), walked(some()[0], some()[2])
	for at := range len(want) {
		given := give(some())
		all := mustAll(t, given)
		var got []api.Entry
		for x := range all {
			if got = append(got, x); len(got) == at+1 {
				ruin(given)
			}
		}
		if !slices.Equal(got, want) || !slices.Equal(slices.Collect(all), want) {
			t.Fatalf("P12.1: All of lists that are written into at %d: %s", at, told(got))
		}
		given = give(some())
		both := mustWalk(t, given[0], given[2])
		var walk []two
		for x, y := range both {
			if walk = append(walk, two{x, y}); len(walk) == at+1 {
				ruin(given)
			}
		}
		if !slices.Equal(walk, pairs) || !slices.Equal(twos(both), pairs) {
			t.Fatalf("P12.1: Walk of lists that are written into at %d: %s", at, toldTwos(walk))
		}
	}
}

// An error's sequence stays empty, though the lists are mended behind it.
func TestErrorsStay(t *testing.T) {
	for what, bad := range bads() {
		given := give(lists(list(1, "a"), bad))
		all, both := refusedAll(t, given), refusedWalk(t, given[0], given[1])
		given[1] = given[1][:0]
		for i := range bad {
			given[1] = append(given[1], entry(2, string([]byte{byte('a' + i)})))
		}
		mustMerge(t, given)
		for range all {
			t.Fatalf("P12.1: All of %s, mended, tells something", what)
		}
		for range both {
			t.Fatalf("P12.1: Walk of %s, mended, tells something", what)
		}
	}
}
