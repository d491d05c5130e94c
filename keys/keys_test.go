package keys_test

import (
	"strings"
	"testing"

	"dunnage/keys"
)

func TestExamples(t *testing.T) {
	if !keys.Within("a", "c", "bz") || !keys.Within("a", "", "~") {
		t.Error("P9.1: Within of the examples")
	}
	if got := keys.Next("a"); got != "a\x00" {
		t.Errorf("P9.2: Next(a): %q", got)
	}
	if lo, hi := keys.Prefix("ab"); lo != "ab" || hi != "ac" {
		t.Errorf("P9.2: Prefix(ab): %q, %q", lo, hi)
	}
	if lo, hi := keys.Prefix("\xff"); lo != "\xff" || hi != "" {
		t.Errorf("P9.2: Prefix of a byte 255: %q, %q", lo, hi)
	}
	if lo, hi, is := keys.Meet("a", "c", "b", ""); lo != "b" || hi != "c" || !is {
		t.Errorf("P9.2: Meet(a, c, b, no end): %q, %q, %v", lo, hi, is)
	}
}

// A key is 1 to 64 bytes, whatever bytes they are; they are counted, and not the runes.
func TestMay(t *testing.T) {
	for n := range 300 {
		want := n >= 1 && n <= 64
		for _, c := range []string{"k", "\x00", "\xff", "\x80"} {
			if key := strings.Repeat(c, n); keys.May(key) != want {
				t.Errorf("P9.1: May of %d bytes %q: %v", n, c, !want)
			}
		}
	}
	for n, want := range map[int]bool{1: true, 31: true, 32: true, 33: false, 64: false} {
		if key := strings.Repeat("é", n); keys.May(key) != want {
			t.Errorf("P9.1: May of %d runes of two bytes: %v", n, !want)
		}
	}
	for c := range 256 {
		if !keys.May(string([]byte{byte(c)})) {
			t.Errorf("P9.1: May of a byte %d: false", c)
		}
	}
	if keys.May(strings.Repeat("k", 1<<20)) {
		t.Error("P9.1: May of a long text: true")
	}
}

func TestLess(t *testing.T) {
	for _, l := range [][]string{texts(edges, 3), odd()} {
		for _, a := range l {
			for _, b := range l {
				if got, want := keys.Less(a, b), stands(a, b) < 0; got != want {
					t.Fatalf("P9.1: Less(%.80q, %.80q): %v", a, b, got)
				}
			}
		}
	}
	for a := range 256 {
		for b := range 256 {
			x, y := string([]byte{'m', byte(a)}), string([]byte{'m', byte(b), 0})
			if keys.Less(x, y) != (a <= b) || keys.Less(y, x) != (b < a) {
				t.Fatalf("P9.1: Less of %q and %q", x, y)
			}
		}
	}
}

// Texts that differ at any one place of a long text, or in their length alone.
func TestLessOfLongTexts(t *testing.T) {
	long := strings.Repeat("m", 200)
	for at := range long {
		up, down, short := long[:at]+"n"+long[at+1:], long[:at]+"l\xff"+long[at+1:], long[:at]
		if !keys.Less(long, up) || keys.Less(up, long) || !keys.Less(down, long) || keys.Less(long, down) {
			t.Fatalf("P9.1: Less of texts that differ at %d", at)
		}
		if !keys.Less(short, long) || keys.Less(long, short) {
			t.Fatalf("P9.1: Less of a text of %d bytes and a longer one that begins with it", at)
		}
	}
	if keys.Less(long, long) {
		t.Error("P9.1: Less of a text and itself")
	}
}

func TestWithin(t *testing.T) {
	rows := []struct {
		lo, hi, key string
		want        bool
	}{
		{"", "", "", true}, {"", "", "\x00", true}, {"", "", "\xff\xff", true}, // no end, from the least text on
		{"b", "", "b", true}, {"b", "", "a\xff", false}, {"b", "", "", false}, {"\xff", "", "\xff\xff", true},
		{"", "b", "", true}, {"", "b", "a\xff", true}, {"", "b", "b", false}, {"", "b", "b\x00", false}, {"", "\x00", "", true}, {"", "\x00", "\x00", false},
		{"b", "d", "b", true}, {"b", "d", "b\x00", true}, {"b", "d", "c\xff\xff", true}, {"b", "d", "d", false}, {"b", "d", "a", false}, {"b", "d", "e", false},
		{"b", "b", "b", false}, {"b", "b", "a", false}, {"b", "b", "c", false}, // ends that are the same
		{"d", "b", "b", false}, {"d", "b", "c", false}, {"d", "b", "d", false}, {"d", "b", "a", false}, {"d", "b", "e", false}, // a hi below lo
		{"b", "b\x00", "b", true}, {"b", "b\x00", "b\x00", false},
	}
	for _, r := range rows {
		if got := keys.Within(r.lo, r.hi, r.key); got != r.want {
			t.Errorf("P9.1: Within(%q, %q, %q): %v", r.lo, r.hi, r.key, got)
		}
	}
}

func TestWithinOfAnyTexts(t *testing.T) {
	for _, l := range [][]string{texts("\x00ab\xff", 3), odd()} {
		for _, lo := range l {
			for _, hi := range l {
				for _, key := range l {
					if got := keys.Within(lo, hi, key); got != in(lo, hi, key) {
						t.Fatalf("P9.1: Within(%.80q, %.80q, %.80q): %v", lo, hi, key, got)
					}
				}
			}
		}
	}
}

func TestEmpty(t *testing.T) {
	rows := []struct {
		lo, hi string
		want   bool
	}{
		{"", "", false}, {"b", "", false}, {"\xff\xff", "", false}, // no end
		{"b", "b", true}, {"\x00", "\x00", true}, {"\xff", "\xff", true}, // the same ends
		{"b", "a", true}, {"b\x00", "b", true}, {"\xff", "\x00", true}, // a hi below lo
		{"", "\x00", false}, {"b", "b\x00", false}, {"a\xff", "b", false}, {"a", "c", false}, // one text at least
	}
	for _, r := range rows {
		if got := keys.Empty(r.lo, r.hi); got != r.want {
			t.Errorf("P9.1: Empty(%q, %q): %v", r.lo, r.hi, got)
		}
	}
}

// Is no text in the range? All texts that could be are gone through: if any is, then one of no more bytes than its ends have.
func TestEmptyOfAnyTexts(t *testing.T) {
	for _, l := range [][]string{texts(edges, 3), odd()} {
		for _, lo := range l {
			for _, hi := range l {
				none := true
				for _, x := range l {
					if in(lo, hi, x) {
						none = false
						break
					}
				}
				if got := keys.Empty(lo, hi); got != none {
					t.Fatalf("P9.1: Empty(%.80q, %.80q): %v", lo, hi, got)
				}
			}
		}
	}
}
