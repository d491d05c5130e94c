package keys_test

import (
	"strings"
	"testing"

	"dunnage/keys"
)

// count is how many of these ranges have the text.
func count(key string, ranges ...[2]string) int {
	n := 0
	for _, r := range ranges {
		if keys.Within(r[0], r[1], key) {
			n++
		}
	}
	return n
}

// 'What follows': each text is within just one of two ranges that a text parts. (The empty text parts nothing: as a hi it is no end.)
func TestPartedByAText(t *testing.T) {
	all := texts(edges, 3)
	for _, part := range all[1:] {
		for _, key := range all {
			if n := count(key, [2]string{"", part}, [2]string{part, ""}); n != 1 {
				t.Fatalf("what follows: %q is within %d of the ranges that %q parts", key, n, part)
			}
		}
	}
}

// 'What follows', of any range: what is in it is in just one of its parts, what is not is in none.
func TestPartedRange(t *testing.T) {
	all := texts("\x00a\xff", 3)
	for _, lo := range all {
		for _, hi := range texts("\x00a\xff", 2) {
			for _, part := range all[1:] {
				if !keys.Within(lo, hi, part) {
					continue
				}
				for _, key := range all {
					n, whole := count(key, [2]string{lo, part}, [2]string{part, hi}), count(key, [2]string{lo, hi})
					if n != whole {
						t.Fatalf("what follows: %q from %q to %q, parted by %q: in %d parts; in the whole: %d", key, lo, hi, part, n, whole)
					}
				}
			}
		}
	}
}

// The two parts do not meet, and the whole meets each of them in that part.
func TestPartsDoNotMeet(t *testing.T) {
	all := texts(edges, 2)
	for _, part := range all[1:] {
		if lo, hi, is := keys.Meet("", part, part, ""); lo != "" || hi != "" || is {
			t.Fatalf("P9.2: the ranges that %q parts meet: %q, %q, %v", part, lo, hi, is)
		}
		if lo, hi, is := keys.Meet("", "", part, ""); lo != part || hi != "" || !is {
			t.Fatalf("P9.2: all texts, and those from %q on: %q, %q, %v", part, lo, hi, is)
		}
		if lo, hi, is := keys.Meet("", part, "", ""); lo != "" || hi != part || !is {
			t.Fatalf("P9.2: all texts, and those below %q: %q, %q, %v", part, lo, hi, is)
		}
	}
}

// 'What follows': what begins with p is within Prefix(p), and nothing else.
func TestWhatBeginsWithIt(t *testing.T) {
	rows := []struct{ ps, all []string }{{texts(edges, 3), texts(edges, 4)}, {odd(), odd()}}
	for _, r := range rows {
		for _, p := range r.ps {
			lo, hi := keys.Prefix(p)
			for _, x := range r.all {
				if got, want := keys.Within(lo, hi, x), strings.HasPrefix(x, p); got != want {
					t.Fatalf("what follows: %.80q is within Prefix(%.80q): %v", x, p, got)
				}
			}
		}
	}
}

// The range from a text to the next one has that text alone; one from a text to itself has none.
func TestRangeOfOneText(t *testing.T) {
	all := texts(edges, 3)
	for _, key := range all {
		next := keys.Next(key)
		if keys.Empty(key, next) {
			t.Fatalf("P9.2: from %q to the next text nothing is", key)
		}
		for _, x := range all {
			if keys.Within(key, next, x) != (x == key) {
				t.Fatalf("P9.2: from %q to the next text: %q", key, x)
			}
		}
		if !keys.Empty(next, next) || !keys.Empty(next, key) && key != "" {
			t.Fatalf("P9.1: from the text next to %q to it, or back: not empty", key)
		}
	}
}

// A range that is empty meets nothing, and one that is not meets itself.
func TestMeetOfItself(t *testing.T) {
	all := texts(edges, 2)
	for _, lo := range all {
		for _, hi := range all {
			gotLo, gotHi, is := keys.Meet(lo, hi, lo, hi)
			if is == keys.Empty(lo, hi) || is && (gotLo != lo || gotHi != hi) {
				t.Fatalf("P9.2: Meet of the range from %q to %q and itself: %q, %q, %v", lo, hi, gotLo, gotHi, is)
			}
			if _, _, is := keys.Meet(lo, hi, "", ""); is == keys.Empty(lo, hi) {
				t.Fatalf("P9.2: Meet of the range from %q to %q and all texts: %v", lo, hi, is)
			}
		}
	}
}
