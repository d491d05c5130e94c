package keys_test

import (
	"strings"
	"testing"

	"dunnage/keys"
)

// Next is above, and what is above is not below Next: nothing is between.
func TestNext(t *testing.T) {
	all := texts(edges, 4)
	for _, key := range texts(edges, 3) {
		next := keys.Next(key)
		if stands(next, key) <= 0 {
			t.Fatalf("P9.2: Next(%q): %q, which is not above", key, next)
		}
		for _, x := range all {
			if stands(x, key) > 0 && stands(x, next) < 0 {
				t.Fatalf("P9.2: Next(%q): %q: %q is between", key, next, x)
			}
		}
	}
	for _, key := range odd() {
		if next := keys.Next(key); next != key+"\x00" {
			t.Errorf("P9.2: Next(%.80q): %.80q", key, next)
		}
	}
}

// Next of the longest key is a text all the same, and no key.
func TestNextOfTheLongestKey(t *testing.T) {
	for _, c := range []string{"k", "\x00", "\xff"} {
		key := strings.Repeat(c, 64)
		if next := keys.Next(key); next != key+"\x00" || keys.May(next) {
			t.Errorf("P9.2: Next of 64 bytes %q: %q, a key: %v", c, next, keys.May(next))
		}
	}
}

func TestMeet(t *testing.T) {
	rows := []struct {
		alo, ahi, blo, bhi, lo, hi string
		is                         bool
	}{
		{"a", "c", "b", "d", "b", "c", true}, {"a", "d", "b", "c", "b", "c", true}, {"a", "c", "a", "c", "a", "c", true}, // they meet
		{"a", "c", "a", "b", "a", "b", true}, {"a", "c", "b", "c", "b", "c", true}, {"a", "b\x00", "b", "c", "b", "b\x00", true},
		{"a", "b", "b", "c", "", "", false}, {"a", "b", "b", "", "", "", false}, {"", "b", "b", "", "", "", false}, // they touch
		{"a", "b", "c", "d", "", "", false}, {"a", "b", "c", "", "", "", false}, {"", "b", "b\x00", "", "", "", false}, // they lie apart
		{"a", "", "b", "", "b", "", true}, {"a", "", "b", "c", "b", "c", true}, {"a", "", "", "b", "a", "b", true}, // ends that are no end
		{"", "", "", "", "", "", true}, {"", "", "b", "", "b", "", true}, {"", "", "", "b", "", "b", true}, {"", "", "b", "c", "b", "c", true},
		{"b", "b", "a", "c", "", "", false}, {"c", "a", "", "", "", "", false}, {"c", "a", "b", "d", "", "", false}, {"b", "b", "b", "b", "", "", false}, // one of them is empty
	}
	for _, r := range rows {
		if lo, hi, is := keys.Meet(r.alo, r.ahi, r.blo, r.bhi); lo != r.lo || hi != r.hi || is != r.is {
			t.Errorf("P9.2: Meet(%q, %q, %q, %q): %q, %q, %v; want %q, %q, %v", r.alo, r.ahi, r.blo, r.bhi, lo, hi, is, r.lo, r.hi, r.is)
		}
		if lo, hi, is := keys.Meet(r.blo, r.bhi, r.alo, r.ahi); lo != r.lo || hi != r.hi || is != r.is {
			t.Errorf("P9.2: Meet(%q, %q, %q, %q): %q, %q, %v; want %q, %q, %v", r.blo, r.bhi, r.alo, r.ahi, lo, hi, is, r.lo, r.hi, r.is)
		}
	}
}

func TestMeetOfAnyTexts(t *testing.T) {
	rows := []struct{ ends, all []string }{
		{texts("\x00b\xff", 2), texts("\x00b\xff", 3)},
		{texts(edges, 1), texts(edges, 3)},
		{odd()[:15], odd()},
	}
	for _, r := range rows {
		for _, alo := range r.ends {
			for _, ahi := range r.ends {
				for _, blo := range r.ends {
					for _, bhi := range r.ends {
						holdsMeet(t, r.all, alo, ahi, blo, bhi)
					}
				}
			}
		}
	}
}

func TestPrefix(t *testing.T) {
	most := strings.Repeat("\xff", 100000)
	rows := []struct{ p, hi string }{
		{"", ""}, {"a", "b"}, {"key", "kez"}, {"\x00", "\x01"}, {"a\x00", "a\x01"}, {"é", "\xc3\xaa"}, {"a\x7f", "a\x80"}, {"\xfe", "\xff"}, {"\xff\xfe", "\xff\xff"},
		{"\xff", ""}, {"\xff\xff", ""}, {"a\xff", "b"}, {"ab\xff\xff", "ac"}, {"a\xffb", "a\xffc"}, {"\xffa\xff", "\xffb"}, {"\xfe\xff", "\xff"}, {"\x00\xff", "\x01"},
		{strings.Repeat("k", 64), strings.Repeat("k", 63) + "l"}, {strings.Repeat("k", 65), strings.Repeat("k", 64) + "l"},
		{strings.Repeat("\xff", 64), ""}, {most, ""}, {"a" + most, "b"}, {most + "a", most + "b"}, {most + "a" + most, most + "b"},
	}
	for _, r := range rows {
		if lo, hi := keys.Prefix(r.p); lo != r.p || hi != r.hi {
			t.Errorf("P9.2: Prefix(%.80q): %.80q, %.80q; want %.80q", r.p, lo, hi, r.hi)
		}
	}
}

// Of each two bytes: the last one is raised, or the one ahead of it, or there is no end.
func TestPrefixOfTwoBytes(t *testing.T) {
	for a := range 256 {
		for b := range 256 {
			p, want := string([]byte{byte(a), byte(b)}), ""
			if b < 255 {
				want = string([]byte{byte(a), byte(b + 1)})
			} else if a < 255 {
				want = string([]byte{byte(a + 1)})
			}
			if lo, hi := keys.Prefix(p); lo != p || hi != want {
				t.Fatalf("P9.2: Prefix(%q): %q, %q; want %q", p, lo, hi, want)
			}
		}
	}
}

// The end is above all texts that begin with p, and no text that is so is below it.
func TestPrefixEnd(t *testing.T) {
	all := texts(edges, 4)
	for _, p := range texts(edges, 3) {
		lo, hi := keys.Prefix(p)
		if lo != p {
			t.Fatalf("P9.2: Prefix(%q) begins at %q", p, lo)
		}
		if hi != "" && (stands(hi, p) <= 0 || strings.HasPrefix(hi, p)) {
			t.Fatalf("P9.2: Prefix(%q) ends at %q, which is not above all of them", p, hi)
		}
		for _, x := range all {
			if above := stands(x, p) > 0 && !strings.HasPrefix(x, p); above && (hi == "" || stands(x, hi) < 0) {
				t.Fatalf("P9.2: Prefix(%q) ends at %q, but %q is above all of them", p, hi, x)
			}
		}
	}
}
