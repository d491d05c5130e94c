package keys_test

import (
	"slices"
	"strings"
	"testing"

	"dunnage/keys"
)

// stands is the chapter's order, byte by byte: below 0, if a stands below b, 0, if they are the same text.
func stands(a, b string) int {
	for i := 0; i < len(a) && i < len(b); i++ {
		if a[i] != b[i] {
			return int(a[i]) - int(b[i])
		}
	}
	return len(a) - len(b)
}

// in is the chapter's range: from lo on, below hi, unless that is no end.
func in(lo, hi, key string) bool {
	return stands(key, lo) >= 0 && (hi == "" || stands(key, hi) < 0)
}

// texts is all texts of at most n of these bytes, by the chapter's order.
func texts(bytes string, n int) []string {
	all, last := []string{""}, []string{""}
	for range n {
		var longer []string
		for _, t := range last {
			for i := range len(bytes) {
				longer = append(longer, t+bytes[i:i+1])
			}
		}
		all, last = append(all, longer...), longer
	}
	slices.SortFunc(all, stands)
	return all
}

// edges is the least bytes and the greatest ones, and two in the midst that stand beside each other.
const edges = "\x00\x01ab\xfe\xff"

// odd is texts that are no keys, or no runes: long ones, broken ones, those that look like an end.
func odd() []string {
	long := strings.Repeat("k", 5000)
	return []string{
		"", "\x00", "\x00\x00", " ", "\x7f", "\x80", "é", "\xc3", "\xc3\xa9\xff", "日本", "\U0010ffff", "\xed\xa0\x80",
		long, long + "\x00", long[:4999], long[:4999] + "l", long + "\xff", strings.Repeat("\xff", 64), strings.Repeat("\xff", 65),
		strings.Repeat("\x00", 64), strings.Repeat("\x00", 65), "~",
	}
}

// The order that all other tests lean on is one: of each two texts just one is below, or they are the same, and a list that was sorted by it rises.
func TestModel(t *testing.T) {
	all := texts(edges, 3)
	if len(all) != 1+6+36+216 {
		t.Fatalf("%d texts", len(all))
	}
	for i, a := range all {
		for j, b := range all {
			if below := stands(a, b) < 0; below != (i < j) {
				t.Fatalf("%q, %q: %v", a, b, below)
			}
		}
	}
}

// holdsMeet asks Meet, and holds its answer against the sets of both ranges: what of all is in both, and no other text of all, is in what is answered.
func holdsMeet(t *testing.T, all []string, alo, ahi, blo, bhi string) {
	t.Helper()
	lo, hi, is := keys.Meet(alo, ahi, blo, bhi)
	both := 0
	for _, x := range all {
		want := in(alo, ahi, x) && in(blo, bhi, x)
		if want {
			both++
		}
		if got := is && in(lo, hi, x); got != want {
			t.Fatalf("P9.2: Meet(%q, %q, %q, %q): %q, %q, %v: %q in it: %v", alo, ahi, blo, bhi, lo, hi, is, x, got)
		}
	}
	if is != (both > 0) {
		t.Fatalf("P9.2: Meet(%q, %q, %q, %q): %v, of %d texts in both", alo, ahi, blo, bhi, is, both)
	}
	wantLo, wantHi := ends(alo, ahi, blo, bhi)
	if !is {
		wantLo, wantHi = "", ""
	}
	if lo != wantLo || hi != wantHi {
		t.Fatalf("P9.2: Meet(%q, %q, %q, %q): %q, %q, %v; want %q, %q", alo, ahi, blo, bhi, lo, hi, is, wantLo, wantHi)
	}
}

// ends is the words in Meet's brackets: the greater lo, and of the ends that are some the lesser one.
func ends(alo, ahi, blo, bhi string) (string, string) {
	los := []string{alo, blo}
	slices.SortFunc(los, stands)
	his := slices.DeleteFunc([]string{ahi, bhi}, func(hi string) bool { return hi == "" })
	slices.SortFunc(his, stands)
	return los[1], append(his, "")[0]
}
