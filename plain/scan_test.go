package plain_test

import (
	"math"
	"strconv"
	"strings"
	"testing"

	"dunnage/api"
	"dunnage/plain"
)

func TestScan(t *testing.T) {
	three := list("a", "1", "b", "2", "c", "3")
	rows := []struct {
		l      []api.Pair
		lo, hi string
		most   int
		want   []api.Pair
	}{
		{three, "b", "", 1, list("b", "2")}, // example 1
		{three, "", "", 9, three},
		{three, "", "", 3, three},
		{three, "", "", 4, three},
		{three, "", "", 2, list("a", "1", "b", "2")},
		{three, "", "", 1, list("a", "1")},
		{three, "", "", 0, nil},
		{three, "", "", -1, nil},
		{three, "", "", math.MinInt, nil},
		{three, "", "", math.MaxInt, three},
		{three, "b", "", math.MaxInt, list("b", "2", "c", "3")},
		{three, "b", "", 2, list("b", "2", "c", "3")},
		{three, "b", "", 0, nil},
		{three, "a", "a", 9, nil},
		{three, "a", "a\x00", 9, list("a", "1")},
		{three, "a\x00", "", 9, list("b", "2", "c", "3")},
		{three, "a\x00", "b", 9, nil},
		{three, "a", "b", 9, list("a", "1")},
		{three, "a", "c", 9, list("a", "1", "b", "2")},
		{three, "a", "c", 1, list("a", "1")},
		{three, "a", "c\x00", 9, three},
		{three, "", "a", 9, nil},
		{three, "", "0", 9, nil},
		{three, "", "c", 9, list("a", "1", "b", "2")},
		{three, "c", "", 9, list("c", "3")},
		{three, "c", "d", 9, list("c", "3")},
		{three, "d", "", 9, nil},
		{three, "\xff", "", 9, nil},
		{three, "c", "a", 9, nil},
		{three, "b", "a", 9, nil},
		{three, "z", "a", 9, nil},
		{three, "", strings.Repeat("z", 5000), 9, three},
		{three, strings.Repeat("a", 5000), "", 9, list("b", "2", "c", "3")},
		{nil, "", "", 9, nil},
		{[]api.Pair{}, "a", "b", 9, nil},
		{list("\x7f", "1", "\x80", "2", "\xff", "3"), "\x80", "\xff", 9, list("\x80", "2")},
		{[]api.Pair{{Key: "a"}}, "", "", 9, list("a", "")},
		{[]api.Pair{sized("a", valueMost)}, "", "", 9, []api.Pair{sized("a", valueMost)}},
	}
	for i, r := range rows {
		if got := plain.Scan(r.l, r.lo, r.hi, r.most); !same(got, r.want) {
			t.Errorf("P11.2: Scan of the row %d, (%.20q, %.20q, %d): %s; want %s", i, r.lo, r.hi, r.most, told(got), told(r.want))
		}
	}
}

// All ranges of these texts, of all lists of some of the keys, with each number of pairs.
func TestScanOfAllShortLists(t *testing.T) {
	ends := []string{"", "\x00", "a", "a\x00", "ab", "abc", "b", "bb", "c", "\xff"}
	for _, m := range shortTables([]string{"a", "a\x00", "ab", "b", "\xff"}, []string{"v"}) {
		l := m.pairs()
		for _, lo := range ends {
			for _, hi := range ends {
				for most := -1; most < len(l)+2; most++ {
					if got, want := plain.Scan(l, lo, hi, most), m.scan(lo, hi, most); !same(got, want) {
						t.Fatalf("P11.2: Scan(%q, %q, %d) of %s: %s; want %s", lo, hi, most, told(l), told(got), told(want))
					}
				}
			}
		}
	}
}

func TestScanOfAnyLists(t *testing.T) {
	c := chance(8)
	for range 100 {
		m := anyTable(&c, names())
		l := m.pairs()
		for _, lo := range texts() {
			for _, hi := range texts() {
				most := c.next(len(l) + 3)
				if got, want := plain.Scan(l, lo, hi, most), m.scan(lo, hi, most); !same(got, want) {
					t.Fatalf("P11.2: Scan(%.20q, %.20q, %d) of %s: %s; want %s", lo, hi, most, told(l), told(got), told(want))
				}
			}
		}
	}
}

// A scan has no bound but most: more pairs than a store's scan tells.
func TestScanOfAGreatList(t *testing.T) {
	var l []api.Pair
	for i := range 5000 {
		l = append(l, api.Pair{Key: strconv.Itoa(10000 + i), Value: []byte(strconv.Itoa(i))})
	}
	for _, most := range []int{1, 999, 1000, 1001, 4999, 5000, 5001, math.MaxInt} {
		if got := plain.Scan(l, "", "", most); !same(got, l[:min(most, len(l))]) {
			t.Errorf("P11.2: Scan of 5000 pairs, at most %d: %d", most, len(got))
		}
		if got := plain.Scan(l, "11000", "14000", most); !same(got, l[1000:1000+min(most, 3000)]) {
			t.Errorf("P11.2: Scan of 3000 pairs of 5000, at most %d: %d", most, len(got))
		}
	}
}

// Scans that go on behind the last key that was told come to all pairs, whatever is told at once.
func TestScanGoesOn(t *testing.T) {
	c := chance(12)
	for range 200 {
		l := anyTable(&c, names()).pairs()
		for most := 1; most < len(l)+2; most++ {
			var all []api.Pair
			for lo := ""; ; {
				next := plain.Scan(l, lo, "", most)
				if len(next) == 0 {
					break
				}
				all = append(all, next...)
				lo = next[len(next)-1].Key + "\x00"
			}
			if !same(all, l) {
				t.Fatalf("P11.2: scans of %s, %d at once: %s", told(l), most, told(all))
			}
		}
	}
}
