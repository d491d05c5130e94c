package merge_test

import (
	"slices"
	"strconv"
	"testing"

	"dunnage/api"
	"dunnage/merge"
)

func TestWalk(t *testing.T) {
	both := func(key string) two { return two{entry(1, key), entry(2, key)} }
	a := func(key string) two { return two{a: entry(1, key)} }
	b := func(key string) two { return two{b: entry(2, key)} }
	rows := []struct {
		what string
		a, b []string
		want []two
	}{
		{"example 1", []string{"a"}, []string{"a", "b"}, []two{both("a"), b("b")}},
		{"nothing", nil, nil, nil},
		{"nothing and one", nil, []string{"a"}, []two{b("a")}},
		{"one and nothing", []string{"a"}, nil, []two{a("a")}},
		{"nothing and some", nil, []string{"a", "b", "c"}, []two{b("a"), b("b"), b("c")}},
		{"some and nothing", []string{"a", "b", "c"}, nil, []two{a("a"), a("b"), a("c")}},
		{"alike", []string{"a", "b", "c"}, []string{"a", "b", "c"}, []two{both("a"), both("b"), both("c")}},
		{"apart, a ahead", []string{"a", "b"}, []string{"c", "d"}, []two{a("a"), a("b"), b("c"), b("d")}},
		{"apart, b ahead", []string{"c", "d"}, []string{"a", "b"}, []two{b("a"), b("b"), a("c"), a("d")}},
		{"by turns, a ahead", []string{"a", "c", "e"}, []string{"b", "d"}, []two{a("a"), b("b"), a("c"), b("d"), a("e")}},
		{"by turns, b ahead", []string{"b", "d"}, []string{"a", "c", "e"}, []two{b("a"), a("b"), b("c"), a("d"), b("e")}},
		{"the first in both", []string{"a", "b"}, []string{"a", "c"}, []two{both("a"), a("b"), b("c")}},
		{"the last in both", []string{"a", "c"}, []string{"b", "c"}, []two{a("a"), b("b"), both("c")}},
		{"a within b", []string{"b"}, []string{"a", "b", "c"}, []two{b("a"), both("b"), b("c")}},
		{"b within a", []string{"a", "b", "c"}, []string{"b"}, []two{a("a"), both("b"), a("c")}},
		{"a key, and longer ones", []string{"a", "ab"}, []string{"a\x00", "ab"}, []two{a("a"), b("a\x00"), both("ab")}},
		{"bytes about 128", []string{"\x7f", "\xff"}, []string{"\x80", "\xff"}, []two{a("\x7f"), b("\x80"), both("\xff")}},
	}
	for _, r := range rows {
		if got := twos(mustWalk(t, list(1, r.a...), list(2, r.b...))); !slices.Equal(got, r.want) {
			t.Errorf("P12.1: Walk of %s: %s; want %s", r.what, toldTwos(got), toldTwos(r.want))
		}
	}
}

// Alike in all, refs too, and one list in both places.
func TestWalkOfOneList(t *testing.T) {
	l := list(1, "a", "b", "c")
	want := []two{{l[0], l[0]}, {l[1], l[1]}, {l[2], l[2]}}
	if got := twos(mustWalk(t, l, l)); !slices.Equal(got, want) {
		t.Errorf("P12.1: Walk of one list in both places: %s", toldTwos(got))
	}
	zero := []api.Entry{{Key: "a"}}
	if got := twos(mustWalk(t, zero, zero)); !slices.Equal(got, []two{{zero[0], zero[0]}}) {
		t.Errorf("P12.1: Walk of refs of zeros: %s", toldTwos(got))
	}
}

func TestWalkOfAllShortLists(t *testing.T) {
	keys := []string{"\x00", "a", "a\x00", "ab", "b", "\xff"}
	for _, a := range shortLists(1, keys...) {
		for _, b := range shortLists(2, keys...) {
			if got, want := twos(mustWalk(t, a, b)), walked(a, b); !slices.Equal(got, want) {
				t.Fatalf("P12.1: Walk of %s, %s: %s; want %s", told(a), told(b), toldTwos(got), toldTwos(want))
			}
		}
	}
}

func TestWalkOfAnyLists(t *testing.T) {
	c := chance(21)
	for range 4000 {
		a, b := anyList(&c, 1, names()), anyList(&c, 2, names())
		if got, want := twos(mustWalk(t, a, b)), walked(a, b); !slices.Equal(got, want) {
			t.Fatalf("P12.1: Walk of %s, %s: %s; want %s", told(a), told(b), toldTwos(got), toldTwos(want))
		}
	}
}

func TestWalkOfListsThatMayNotBe(t *testing.T) {
	refused := func(what string, a, b []api.Entry) {
		t.Helper()
		both, e := merge.Walk(a, b)
		if e != api.ErrForm || both == nil {
			t.Fatalf("P12.1: Walk of %s: error %d, nil: %v; want ErrForm", what, e, both == nil)
		}
		for range 2 {
			for x, y := range both {
				t.Fatalf("P12.1: Walk of %s tells %v, %v", what, x, y)
			}
		}
	}
	for what, bad := range bads() {
		for _, good := range lists(nil, list(1, "a"), list(1, "0", "y", "z"), bad) {
			refused(what+", as a", bad, good)
			refused(what+", as b", good, bad)
		}
	}
}

func TestWalkOfGreatLists(t *testing.T) {
	var a, b []api.Entry
	var want []two
	for i := range 300000 {
		key := strconv.Itoa(1000000 + i)
		var x two
		if i%3 != 0 {
			x.a = entry(1, key)
			a = append(a, x.a)
		}
		if i%3 != 1 {
			x.b = entry(2, key)
			b = append(b, x.b)
		}
		want = append(want, x)
	}
	if got := twos(mustWalk(t, a, b)); !slices.Equal(got, want) {
		t.Errorf("P12.1: Walk of great lists tells %d; want %d", len(got), len(want))
	}
}
