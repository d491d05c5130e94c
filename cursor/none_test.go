package cursor_test

import (
	"testing"

	"dunnage/api"
	"dunnage/cursor"
)

// holdsNothing holds each call against: false, nothing.
func holdsNothing(t *testing.T, what string, c *cursor.Cursor) {
	t.Helper()
	for range 2 {
		for _, text := range []string{"", "a", "\x00", top(), top() + "a"} {
			if c.Seek(text) {
				t.Errorf("P18.3: Seek(%q) %s: true", text, what)
			}
		}
		if c.First() || c.Last() || c.Next() || c.Prev() {
			t.Errorf("P18.3: a step %s: true", what)
		}
		if e, is := c.Entry(); is || e != (api.Entry{}) {
			t.Errorf("P18.3: Entry %s: %v, %v", what, e, is)
		}
		rest := c.Rest()
		if rest == nil {
			t.Fatalf("R6: Rest %s is nil", what)
		}
		for range 2 {
			for e := range rest {
				t.Errorf("P18.3: Rest %s: %v", what, e)
			}
		}
	}
}

func TestNilCursor(t *testing.T) { holdsNothing(t, "of a nil cursor", nil) }

// R1: a cursor that New did not make does no harm.
func TestUnmadeCursor(t *testing.T) {
	holdsNothing(t, "of a cursor that was not made", &cursor.Cursor{})
}

// What New answers beside an error is a nil cursor, which may be asked like any other.
func TestRefusedCursor(t *testing.T) {
	c, _ := cursor.New(nil, 0, "", "")
	holdsNothing(t, "of a refused cursor", c)
	c, _ = cursor.New(newPair(t, 4096, "a").f, rootsMost, "", "")
	holdsNothing(t, "of a refused cursor", c)
}
