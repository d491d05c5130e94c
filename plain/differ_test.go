package plain_test

import (
	"fmt"
	"strconv"
	"strings"
	"testing"

	"dunnage/api"
	"dunnage/plain"
)

func diffs(l ...api.Diff) []api.Diff { return l }

func TestDiffer(t *testing.T) {
	great := strings.Repeat("v", valueMost)
	rows := []struct {
		what string
		a, b []api.Pair
		want []api.Diff
	}{
		{"example 1", list("a", "1", "b", "2"), list("b", "3", "c", "4"), diffs(gone("a", "1"), turned("b", "2", "3"), come("c", "4"))},
		{"nil", nil, nil, nil},
		{"no pairs", []api.Pair{}, nil, nil},
		{"nothing and one", nil, list("a", "1"), diffs(come("a", "1"))},
		{"one and nothing", list("a", "1"), []api.Pair{}, diffs(gone("a", "1"))},
		{"nothing and some", nil, list("a", "1", "b", "2", "c", "3"), diffs(come("a", "1"), come("b", "2"), come("c", "3"))},
		{"some and nothing", list("a", "1", "b", "2", "c", "3"), nil, diffs(gone("a", "1"), gone("b", "2"), gone("c", "3"))},
		{"alike", list("a", "1", "b", "2"), list("a", "1", "b", "2"), nil},
		{"alike, no bytes", list("a", ""), list("a", ""), nil},
		{"alike, no bytes and nil", []api.Pair{{Key: "a"}}, []api.Pair{{Key: "a", Value: []byte{}}}, nil},
		{"alike, nil and no bytes", []api.Pair{{Key: "a", Value: []byte{}}}, []api.Pair{{Key: "a"}}, nil},
		{"alike, with other room", []api.Pair{{Key: "a", Value: make([]byte, 2, 9)}}, []api.Pair{{Key: "a", Value: make([]byte, 2)}}, nil},
		{"a value of no bytes comes", nil, []api.Pair{{Key: "a"}}, diffs(come("a", ""))},
		{"a value of no bytes goes", []api.Pair{{Key: "a"}}, nil, diffs(gone("a", ""))},
		{"no bytes become some", list("a", ""), list("a", "1"), diffs(turned("a", "", "1"))},
		{"some bytes become none", list("a", "1"), list("a", ""), diffs(turned("a", "1", ""))},
		{"a byte more", list("a", "1"), list("a", "11"), diffs(turned("a", "1", "11"))},
		{"a byte less", list("a", "11"), list("a", "1"), diffs(turned("a", "11", "1"))},
		{"a byte 0", list("a", ""), list("a", "\x00"), diffs(turned("a", "", "\x00"))},
		{"the last byte of 4096", []api.Pair{{Key: "a", Value: []byte(great)}}, []api.Pair{{Key: "a", Value: []byte(great[1:] + "w")}}, diffs(turned("a", great, great[1:]+"w"))},
		{"apart, a ahead", list("a", "1", "b", "2"), list("c", "3", "d", "4"), diffs(gone("a", "1"), gone("b", "2"), come("c", "3"), come("d", "4"))},
		{"apart, b ahead", list("c", "3", "d", "4"), list("a", "1", "b", "2"), diffs(come("a", "1"), come("b", "2"), gone("c", "3"), gone("d", "4"))},
		{"by turns", list("a", "1", "c", "3"), list("b", "2", "d", "4"), diffs(gone("a", "1"), come("b", "2"), gone("c", "3"), come("d", "4"))},
		{"by turns, with one value", list("a", "1", "c", "1"), list("b", "1", "d", "1"), diffs(gone("a", "1"), come("b", "1"), gone("c", "1"), come("d", "1"))},
		{"a key, and a longer one", list("a", "1"), list("a\x00", "1"), diffs(gone("a", "1"), come("a\x00", "1"))},
		{"the first one", list("a", "1", "b", "2", "c", "3"), list("a", "9", "b", "2", "c", "3"), diffs(turned("a", "1", "9"))},
		{"one in the middle", list("a", "1", "b", "2", "c", "3"), list("a", "1", "c", "3"), diffs(gone("b", "2"))},
		{"the last one", list("a", "1", "b", "2"), list("a", "1", "b", "2", "c", "3"), diffs(come("c", "3"))},
		{"bytes about 128", list("\x7f", "1", "\x80", "1"), list("\x80", "1", "\xff", "1"), diffs(gone("\x7f", "1"), come("\xff", "1"))},
	}
	for _, r := range rows {
		if got := plain.Differ(r.a, r.b); !sameDiffs(got, r.want) {
			t.Errorf("P11.2: Differ of %s: %.300s; want %.300s", r.what, fmt.Sprint(got), fmt.Sprint(r.want))
		}
	}
}

// R4, R8: beside a Was or an Is that is false stands no value.
func TestDifferHasNoOtherValues(t *testing.T) {
	c := chance(2)
	for range 500 {
		for _, d := range plain.Differ(anyTable(&c, names()).pairs(), anyTable(&c, names()).pairs()) {
			if !d.Was && d.Old != nil || !d.Is && d.New != nil || !d.Was && !d.Is {
				t.Fatalf("P11.2: Differ tells %+v", d)
			}
		}
	}
}

// All lists of four keys against all.
func TestDifferOfAllShortLists(t *testing.T) {
	all := shortTables([]string{"a", "a\x00", "ab", "b"}, []string{"", "1", "2"})
	for _, m := range all {
		for _, o := range all {
			if got, want := plain.Differ(m.pairs(), o.pairs()), m.differ(o); !sameDiffs(got, want) {
				t.Fatalf("P11.2: Differ of %s and %s: %+v; want %+v", told(m.pairs()), told(o.pairs()), got, want)
			}
		}
	}
}

func TestDifferOfAnyLists(t *testing.T) {
	c := chance(14)
	for range 3000 {
		m, o := anyTable(&c, names()), anyTable(&c, names())
		if got, want := plain.Differ(m.pairs(), o.pairs()), m.differ(o); !sameDiffs(got, want) {
			t.Fatalf("P11.2: Differ of %s and %s: %+v; want %+v", told(m.pairs()), told(o.pairs()), got, want)
		}
	}
}

// Turned about, Differ tells the same keys, what was and what is in each other's place.
func TestDifferTurnedAbout(t *testing.T) {
	c := chance(15)
	for range 1000 {
		a, b := anyTable(&c, names()).pairs(), anyTable(&c, names()).pairs()
		there, back := plain.Differ(a, b), plain.Differ(b, a)
		for i, d := range back {
			back[i] = api.Diff{Key: d.Key, Was: d.Is, Is: d.Was, Old: d.New, New: d.Old}
		}
		if !sameDiffs(there, back) {
			t.Fatalf("P11.2: Differ of %s and %s: %+v; turned about %+v", told(a), told(b), there, back)
		}
	}
}

// Lists of many pairs are gone through side by side, not one for each pair of the other.
func TestDifferOfGreatLists(t *testing.T) {
	var a, b []api.Pair
	for i := range 200000 {
		p := api.Pair{Key: strconv.Itoa(1000000 + i), Value: []byte(strconv.Itoa(i))}
		if i%3 != 0 {
			a = append(a, p)
		}
		if i%3 != 1 {
			b = append(b, p)
		}
	}
	got := plain.Differ(a, b)
	at := 0
	for i := range 200000 {
		if i%3 == 2 {
			continue
		}
		key, value := strconv.Itoa(1000000+i), strconv.Itoa(i)
		want := come(key, value)
		if i%3 == 1 {
			want = gone(key, value)
		}
		if at >= len(got) || !sameDiffs(got[at:at+1], diffs(want)) {
			t.Fatalf("P11.2: Differ of two great lists: %d told, of which %d is not %+v", len(got), at, want)
		}
		at++
	}
	if at != len(got) {
		t.Errorf("P11.2: Differ of two great lists: %d told; want %d", len(got), at)
	}
}
