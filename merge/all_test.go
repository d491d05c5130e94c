package merge_test

import (
	"slices"
	"strconv"
	"testing"

	"dunnage/api"
	"dunnage/merge"
)

func TestMerge(t *testing.T) {
	rows := []struct {
		what string
		l    [][]api.Entry
		want []api.Entry
	}{
		{"example 1", lists(list(1, "a", "c"), list(2, "a", "b")), []api.Entry{entry(1, "a"), entry(2, "b"), entry(1, "c")}},
		{"nil", nil, nil},
		{"no list", lists(), nil},
		{"nil lists", lists(nil, nil), nil},
		{"empty lists", lists([]api.Entry{}, nil, []api.Entry{}), nil},
		{"one list", lists(list(1, "a", "b", "c")), list(1, "a", "b", "c")},
		{"one entry", lists(list(1, "a")), list(1, "a")},
		{"one among empty ones", lists(nil, []api.Entry{}, list(3, "a", "b"), nil), list(3, "a", "b")},
		{"an empty one between", lists(list(1, "a", "c"), nil, list(3, "b")), []api.Entry{entry(1, "a"), entry(3, "b"), entry(1, "c")}},
		{"apart, rising", lists(list(1, "a", "b"), list(2, "c", "d")), append(list(1, "a", "b"), list(2, "c", "d")...)},
		{"apart, falling", lists(list(1, "c", "d"), list(2, "a", "b")), append(list(2, "a", "b"), list(1, "c", "d")...)},
		{"by turns", lists(list(1, "a", "c", "e"), list(2, "b", "d")), []api.Entry{entry(1, "a"), entry(2, "b"), entry(1, "c"), entry(2, "d"), entry(1, "e")}},
		{"alike", lists(list(1, "a", "b"), list(2, "a", "b"), list(3, "a", "b")), list(1, "a", "b")},
		{"the second list is the first that has it", lists(list(1, "a"), list(2, "b"), list(3, "a", "b")), []api.Entry{entry(1, "a"), entry(2, "b")}},
		{"the last list has it alone", lists(list(1, "a"), list(2, "a"), list(3, "a", "b")), []api.Entry{entry(1, "a"), entry(3, "b")}},
		{"a later list comes to the key sooner", lists(list(1, "a", "b", "d"), list(2, "d"), list(3, "c", "d")), []api.Entry{entry(1, "a"), entry(1, "b"), entry(3, "c"), entry(1, "d")}},
		{"one list twice", lists(list(1, "a", "b"), list(1, "a", "b")), list(1, "a", "b")},
		{"a key, and longer ones", lists(list(1, "ab"), list(2, "a", "a\x00"), list(3, "a", "abc")), []api.Entry{entry(2, "a"), entry(2, "a\x00"), entry(1, "ab"), entry(3, "abc")}},
		{"bytes about 128", lists(list(1, "\x80", "\xff"), list(2, "\x7f", "\xff")), []api.Entry{entry(2, "\x7f"), entry(1, "\x80"), entry(1, "\xff")}},
		{"refs of zeros", lists([]api.Entry{{Key: "b"}}, list(2, "a", "b")), []api.Entry{entry(2, "a"), {Key: "b"}}},
	}
	for _, r := range rows {
		if got := mustMerge(t, r.l); !slices.Equal(got, r.want) {
			t.Errorf("P12.1: Merge of %s: %s; want %s", r.what, told(got), told(r.want))
		}
	}
}

// Each choice of some keys in each of three lists.
func TestMergeOfAllShortLists(t *testing.T) {
	keys := []string{"a", "a\x00", "ab", "b"}
	for _, a := range shortLists(1, keys...) {
		for _, b := range shortLists(2, keys...) {
			for _, c := range shortLists(3, keys...) {
				l := lists(a, b, c)
				if got, want := mustMerge(t, l), merged(l); !slices.Equal(got, want) {
					t.Fatalf("P12.1: Merge of %s: %s; want %s", toldAll(l), told(got), told(want))
				}
			}
		}
	}
}

func TestMergeOfAnyLists(t *testing.T) {
	c := chance(12)
	for round := range 4000 {
		l := anyLists(&c, round%(listsMost+1), names())
		if got, want := mustMerge(t, l), merged(l); !slices.Equal(got, want) {
			t.Fatalf("P12.1: Merge of %s: %s; want %s", toldAll(l), told(got), told(want))
		}
	}
}

// Up to as many lists as may be, each with keys that all have, that the list beside it has, and that it has alone.
func TestMergeOfMostLists(t *testing.T) {
	for n := range listsMost + 1 {
		var l [][]api.Entry
		for of := range n {
			own, up := string([]byte{'z', byte(255 - of)}), string([]byte{'b', byte(of)})
			l = append(l, list(of+1, "a", up, string([]byte{'b', byte(of + 1)}), "c", own))
		}
		got := mustMerge(t, l)
		if want := merged(l); !slices.Equal(got, want) {
			t.Errorf("P12.1: Merge of %d lists: %s; want %s", n, told(got), told(want))
		}
		if want := min(n, 1)*3 + 2*n; len(got) != want {
			t.Errorf("P12.1: Merge of %d lists tells %d entries; want %d", n, len(got), want)
		}
	}
}

// One key is in one of sixteen lists, and in all from a later one on; the lists come to it at unlike times.
func TestTheFirstListThatHasItCounts(t *testing.T) {
	for first := range listsMost {
		for second := first; second < listsMost; second++ {
			l := make([][]api.Entry, listsMost)
			for of := range l {
				l[of] = list(of+1, "a"+strconv.Itoa(of%3), "z"+strconv.Itoa(of%5))
				if of == first || of >= second {
					l[of] = list(of+1, "a"+strconv.Itoa(of%3), "m", "z"+strconv.Itoa(of%5))
				}
			}
			got := mustMerge(t, l)
			if !slices.Contains(got, entry(first+1, "m")) || !slices.Equal(got, merged(l)) {
				t.Fatalf("P12.1: the lists %d and %d and on have m: %s", first, second, told(got))
			}
		}
	}
}

// refused asks All and Merge for that error: the sequence is empty, and not nil; there is no list.
func refused(t *testing.T, what string, l [][]api.Entry, want api.Errno) {
	t.Helper()
	all, e := merge.All(l)
	if e != want || all == nil {
		t.Fatalf("P12.1: All of %s: error %d, nil: %v; want %d", what, e, all == nil, want)
	}
	for range 2 {
		for x := range all {
			t.Fatalf("P12.1: All of %s tells %v", what, x)
		}
	}
	if got, e := merge.Merge(l); e != want || got != nil {
		t.Fatalf("P12.1: Merge of %s: error %d, %s; want %d", what, e, told(got), want)
	}
}

func TestTooManyLists(t *testing.T) {
	for _, n := range []int{listsMost + 1, listsMost + 2, 100, 1 << 16} {
		refused(t, strconv.Itoa(n)+" nil lists", make([][]api.Entry, n), api.ErrLarge)
		refused(t, strconv.Itoa(n)+" lists", slices.Repeat(lists(list(1, "a")), n), api.ErrLarge)
	}
	if got := mustMerge(t, make([][]api.Entry, listsMost, 2*listsMost)); got != nil {
		t.Errorf("P12.1: Merge of nil lists: %s", told(got))
	}
}

// One list that is not so, at each place among good ones, and ahead of and behind empty ones.
func TestOneListIsNotSo(t *testing.T) {
	good := list(1, "a", "b")
	for what, bad := range bads() {
		for n := 1; n <= listsMost; n++ {
			for at := range n {
				l := slices.Repeat(lists(good), n)
				l[at] = bad
				refused(t, what+", the list "+strconv.Itoa(at)+" of "+strconv.Itoa(n), l, api.ErrForm)
			}
		}
		refused(t, what+", among empty ones", lists(nil, bad, nil), api.ErrForm)
		refused(t, what+", twice", lists(bad, bad), api.ErrForm)
	}
}

// R5: that there are too many lists is told first.
func TestWhichErrorComesFirst(t *testing.T) {
	for what, bad := range bads() {
		for at := range listsMost + 1 {
			l := slices.Repeat(lists(list(1, "a")), listsMost+1)
			l[at] = bad
			refused(t, what+", one of 17 lists", l, api.ErrLarge)
		}
		refused(t, what+", all of 17 lists", slices.Repeat(lists(bad), listsMost+1), api.ErrLarge)
		refused(t, what+", all of 16 lists", slices.Repeat(lists(bad), listsMost), api.ErrForm)
	}
}

// Keys that would be taken for one list's next if lists were joined are no fault: each list is asked for itself.
func TestListsAreCheckedOneByOne(t *testing.T) {
	l := lists(list(1, "c", "d"), list(2, "a"), list(3, "a"), list(4, "d"))
	if got, want := mustMerge(t, l), merged(l); !slices.Equal(got, want) {
		t.Errorf("P12.1: Merge of %s: %s; want %s", toldAll(l), told(got), told(want))
	}
}

// Great lists, of which each has every third key or so, and one that has but few.
func TestMergeOfGreatLists(t *testing.T) {
	const all = 120000
	l := make([][]api.Entry, listsMost)
	var want []api.Entry
	for i := range all {
		key, had := strconv.Itoa(1000000+i), false
		for of := range l {
			if (i+of)%(of+3) != 0 {
				continue
			}
			l[of] = append(l[of], entry(of+1, key))
			if !had {
				want = append(want, entry(of+1, key))
			}
			had = true
		}
	}
	got, e := merge.Merge(l)
	if e != api.OK || !slices.Equal(got, want) {
		t.Errorf("P12.1: Merge of great lists: error %d, %d entries; want %d", e, len(got), len(want))
	}
}
