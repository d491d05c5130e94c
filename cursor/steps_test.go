package cursor_test

import (
	"slices"
	"strings"
	"testing"

	"dunnage/api"
	"dunnage/cursor"
)

// at is the key at which a cursor stands, or - of none.
func at(c *cursor.Cursor) string {
	e, is := c.Entry()
	if !is {
		return "-"
	}
	return e.Key
}

// goes holds a row of steps, each written as its name and what it answers, against the cursor: "next e" leads to e, "next -" nowhere, "seek d e" to e.
func goes(t *testing.T, c *cursor.Cursor, row string) {
	t.Helper()
	for _, s := range strings.Split(row, ", ") {
		f := strings.Split(s, " ")
		var is bool
		switch f[0] {
		case "first":
			is = c.First()
		case "last":
			is = c.Last()
		case "next":
			is = c.Next()
		case "prev":
			is = c.Prev()
		case "seek":
			is = c.Seek(f[1])
		default:
			t.Fatalf("no step: %q", s)
		}
		want := f[len(f)-1]
		if got := at(c); got != want || is != (want != "-") {
			t.Errorf("P18.2: %q of %q: %v, at %q", s, row, is, got)
		}
	}
}

func TestExample(t *testing.T) {
	c, e := cursor.New(newPair(t, 4096, "a", "c", "e").f, 0, "b", "")
	if e != api.OK || at(c) != "-" {
		t.Fatalf("P18.1: New of the example: error %d, at %q", e, at(c))
	}
	goes(t, c, "first c, next e, next -, prev e, seek d e, prev c, prev -")
}

// Rows written out, of a version with keys ahead of and behind the range.
func TestRows(t *testing.T) {
	p := newPair(t, 4096, "a", "c", "d", "e", "g")
	for _, r := range []struct{ lo, hi, row string }{
		{"b", "f", "next c, next d, next e, next -, next c"},
		{"b", "f", "prev e, prev d, prev c, prev -, prev e"},
		{"b", "f", "first c, first c, prev -, first c, next d"},
		{"b", "f", "last e, last e, next -, last e, prev d"},
		{"b", "f", "next c, next d, prev c, next d, next e, prev d"},
		{"b", "f", "seek a c, seek b c, seek c c, seek cc d, seek d d, seek e e, seek ee -, seek g -, seek z -"},
		{"b", "f", "seek d d, next e, seek d d, prev c, seek z -, next c, seek z -, prev e"},
		{"c", "e", "first c, next d, next -, last d, prev c, prev -, seek a c, seek e -"},
		{"c", "g", "last e, seek f -, seek e e, next -"},
		{"d", "d~", "first d, next -, last d, prev -, seek a d, seek d d, seek da -"},
		{"", "", "first a, last g, next -, prev g, seek h -, seek A a, prev -"},
		{"", "a", "first -, last -, next -, prev -, seek a -"},
		{"h", "", "first -, last -, next -, prev -, seek a -, seek z -"},
		{"f", "b", "first -, last -, next -, prev -, seek c -, seek d -"},
	} {
		c, _ := cursor.New(p.f, 0, r.lo, r.hi)
		goes(t, c, r.row)
	}
}

// A step that leads nowhere, from wherever: then Next is First, and Prev is Last.
func TestFromNowhere(t *testing.T) {
	p := newPair(t, 4096, "a", "b", "c", "d", "e")
	for _, r := range []struct {
		what string
		do   func(w *walk)
	}{
		{"New", func(w *walk) {}},
		{"Next", func(w *walk) { w.last(t); w.next(t) }},
		{"Prev", func(w *walk) { w.first(t); w.prev(t) }},
		{"Seek", func(w *walk) { w.next(t); w.seek(t, "z") }},
		{"Seek of hi", func(w *walk) { w.next(t); w.seek(t, "e") }},
		{"Rest", func(w *walk) { w.next(t); w.rest(t) }},
	} {
		for want, step := range map[string]func(w *walk) bool{
			"b Next":    func(w *walk) bool { return w.next(t) },
			"b First":   func(w *walk) bool { return w.first(t) },
			"d Prev":    func(w *walk) bool { return w.prev(t) },
			"d Last":    func(w *walk) bool { return w.last(t) },
			"c Seek(c)": func(w *walk) bool { return w.seek(t, "c") },
		} {
			w := p.walk(t, 0, "b", "e")
			r.do(w)
			if at(w.c) != "-" {
				t.Fatalf("P18.2: behind %s the cursor stands at %q", r.what, at(w.c))
			}
			if !step(w) || w.key != want[:1] {
				t.Errorf("P18.2: %s from nowhere, behind %s: %q", want[2:], r.what, w.key)
			}
		}
	}
}

// Where no key of the version is in the range, each step leads nowhere; once there is one, each leads to it.
func TestVersionsWithoutSuchKeys(t *testing.T) {
	for _, l := range [][]string{nil, {"a"}, {"x", "y"}, {"a", "b", "x", "y"}} {
		for i, steps := range [][]func(w *walk) bool{
			{func(w *walk) bool { return w.first(t) }},
			{func(w *walk) bool { return w.last(t) }},
			{func(w *walk) bool { return w.next(t) }},
			{func(w *walk) bool { return w.prev(t) }},
			{func(w *walk) bool { return w.seek(t, "") }},
			{func(w *walk) bool { return w.seek(t, "m") }},
		} {
			p := newPair(t, 4096, l...)
			w := p.walk(t, 0, "c", "x")
			for range 2 {
				if steps[0](w) {
					t.Errorf("P18.2: step %d among %q leads to %q", i, l, w.key)
				}
			}
			p.put(t, 0, "m", ref(9))
			if !steps[0](w) || w.key != "m" {
				t.Errorf("P18.2: step %d among %q and m leads to %q", i, l, w.key)
			}
		}
	}
}

// Seek of each text, from nowhere and from each key, in each range of short texts.
func TestSeekOfAnyText(t *testing.T) {
	all := texts("\x00a\xff", 2)
	p := newPair(t, 4096, "\x00", "\x00a", "a", "a\x00", "a\xff", "\xff", "\xff\xff")
	asked := append(texts("\x00a\xff", 3), odd()...)
	for _, lo := range all {
		for _, hi := range all {
			w := p.walk(t, 0, lo, hi)
			for _, text := range asked {
				w.seek(t, text)
			}
			for _, text := range []string{"", "a", "\xff"} {
				for is := w.first(t); is; is = w.next(t) {
					back := w.key
					w.seek(t, text)
					w.seek(t, back)
				}
			}
		}
	}
}

// Keys at the edges, which differ in their last bytes, are gone through both ways: none is passed by, and none told twice.
func TestKeysAtTheEdges(t *testing.T) {
	p := newPair(t, 1<<16)
	for i, k := range append(odd(), texts("\x00\x01\xfe\xff", 3)...) {
		if may(k) {
			p.put(t, 0, k, ref(i))
		}
	}
	w := p.walk(t, 0, "", "")
	w.rising(t)
	w.falling(t)
	for _, k := range w.keys() {
		w.seek(t, k)
		w.prev(t)
		w.seek(t, k)
		w.next(t)
		for _, end := range []string{k, k + "\x00", k + "\xff", k[:len(k)-1], k + top()} {
			x := p.walk(t, 0, "", end)
			x.last(t)
			x.prev(t)
			y := p.walk(t, 0, end, "")
			y.first(t)
			y.prev(t)
		}
	}
}

// From a key, Prev leads to the greatest one below it, be that as near as keys can be.
func TestPrevToTheNearest(t *testing.T) {
	for _, r := range []struct{ below, above string }{
		{"a" + top()[1:], "b"}, {"ab" + top()[2:], "ac"}, {"a", "a\x00"}, {top()[1:], top()}, {top()[1:] + "\xfe", top()},
		{strings.Repeat("\x00", 63), strings.Repeat("\x00", 64)}, {"\x00" + top()[1:], "\x01"}, {"a\xff", "b"}, {"a\x00", "a\x01"},
		{"\x7f" + top()[1:], "\x80"}, {"a\x00" + top()[2:], "a\x01"}, {"\x00", "\x00\x00"}, {strings.Repeat("a", 63), strings.Repeat("a", 63) + "\x00"},
	} {
		p := newPair(t, 4096, r.below, r.above)
		w := p.walk(t, 0, "", "")
		if w.last(t); !w.prev(t) || w.key != r.below || !w.next(t) || w.key != r.above {
			t.Errorf("P18.2: between %q and %q: at %q", r.below, r.above, w.key)
		}
		x := p.walk(t, 0, "", r.above)
		if !x.last(t) || x.key != r.below {
			t.Errorf("P18.2: Last below %q: at %q", r.above, x.key)
		}
		p.delete(t, 0, r.below)
		if w.prev(t) || x.last(t) {
			t.Errorf("P18.2: below %q: at %q, %q", r.above, w.key, x.key)
		}
	}
}

// A version of many keys, and ranges of it, both ways.
func TestManyKeys(t *testing.T) {
	p := newPair(t, wordsMost)
	for i := range 1500 {
		p.put(t, 3, key(i*7919%3000), ref(i))
	}
	for _, r := range [][2]string{{"", ""}, {key(2990), ""}, {"", key(20)}, {key(700), key(760)}, {key(999) + "\x00", key(1009)}} {
		w := p.walk(t, 3, r[0], r[1])
		rises, falls := []string{}, []string{}
		for is := w.c.First(); is; is = w.c.Next() {
			rises = append(rises, at(w.c))
		}
		for is := w.c.Last(); is; is = w.c.Prev() {
			falls = append(falls, at(w.c))
		}
		if !slices.Equal(rises, w.keys()) {
			t.Errorf("what follows: First and Next from %q to %q: %d of %d keys", r[0], r[1], len(rises), len(w.keys()))
		}
		if slices.Reverse(falls); !slices.Equal(falls, rises) {
			t.Errorf("what follows: Last and Prev from %q to %q: %d of %d keys", r[0], r[1], len(falls), len(rises))
		}
	}
}
