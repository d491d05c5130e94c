package cursor

import (
	"cmp"
	"strings"

	"dunnage/api"
	"dunnage/btree"
	"dunnage/keys"
)

// ask is a question to the forest: which key of a version is the nearest to a text, the text itself counted?
type ask func(f *btree.Forest, root int, text string) (string, api.Ref, bool)

// step is Next, or Prev: they differ in the question, and in the text from which on it is asked.
func (c *Cursor) step(nearest ask, from func(*Cursor) string) bool {
	if c == nil {
		return false
	}
	return c.stand(nearest, from(c))
}

// stand goes to the nearest key. If that one is out of the range, so are all that are further on.
func (c *Cursor) stand(nearest ask, text string) bool {
	key, _, is := nearest(c.forest, c.root, text)
	if !is || !keys.Within(c.lo, c.hi, key) {
		c.leave()
		return false
	}
	c.key = key
	return true
}

func (c *Cursor) leave() {
	if c != nil {
		c.key = ""
	}
}

// above is the least text to which Next may lead.
func (c *Cursor) above() string {
	if c.key == "" {
		return c.lo
	}
	return keys.Next(c.key)
}

// below is the greatest text to which Prev may lead.
func (c *Cursor) below() string { return before(cmp.Or(c.key, c.hi)) }

// before is a text below end, and no key stands between the two. Below one that does not end with byte 0 no text is the greatest, but no key is longer than what is laid behind it here. An empty end is none.
func before(end string) string {
	last := len(end) - 1
	switch {
	case end == "":
		return greatest()
	case end[last] == 0:
		return end[:last]
	}
	return end[:last] + string([]byte{end[last] - 1}) + greatest()
}

// greatest is the greatest key that may be.
func greatest() string { return strings.Repeat("\xff", api.MaxKey) }
