package cursor_test

import (
	"math/bits"
	"slices"
	"testing"

	"dunnage/api"
	"dunnage/cursor"
)

// 'What follows', of all versions with keys out of a few, and all ranges of short texts; with First and Last, and from nowhere.
func TestAllKeysBothWays(t *testing.T) {
	few := []string{"\x00", "a", "a\x00", "a\xff", "b", "\xff"}
	ends := []string{"", "\x00", "\x00\x00", "a", "a\x00", "a\x01", "a\xff", "b", "\xff", "\xff\xff"}
	for set := range 1 << len(few) {
		p := newPair(t, 1<<13)
		for i, k := range few {
			if set>>i&1 == 1 {
				p.put(t, 0, k, ref(i))
			}
		}
		for _, lo := range ends {
			for _, hi := range ends {
				w := p.walk(t, 0, lo, hi)
				for range w.keys() {
					w.next(t)
				}
				w.next(t)
				for range w.keys() {
					w.prev(t)
				}
				w.rising(t)
				w.falling(t)
				w.rest(t)
			}
		}
		if n := p.f.Len(0); n != bits.OnesCount(uint(set)) {
			t.Fatalf("the forest has %d keys", n)
		}
	}
}

// All rows of four steps, with keys that come and go among them.
func TestAllRowsOfSteps(t *testing.T) {
	steps := []func(w *walk){
		func(w *walk) { w.first(t) },
		func(w *walk) { w.last(t) },
		func(w *walk) { w.next(t) },
		func(w *walk) { w.prev(t) },
		func(w *walk) { w.seek(t, "c") },
		func(w *walk) { w.seek(t, "dd") },
		func(w *walk) { w.put(t, 0, "d", ref(7)) },
		func(w *walk) { w.delete(t, 0, "c") },
		func(w *walk) {
			for range w.c.Rest() {
				w.ahead()
				return
			}
			w.ahead()
		},
	}
	n := len(steps)
	for row := range n * n * n * n {
		p := newPair(t, 1<<10, "a", "b", "c", "e", "f")
		w := p.walk(t, 0, "b", "f")
		for at, rest := 0, row; at < 4; at, rest = at+1, rest/n {
			steps[rest%n](w)
			w.stands(t, "a step of a row")
		}
	}
}

// anyKey is a key by chance: mostly one of few, so that it is there.
func (c *chance) anyKey() string {
	switch c.next(6) {
	case 0, 1:
		return c.of(texts("\x00a\xff", 2)[1:])
	case 2:
		for {
			if k := c.of(odd()); may(k) {
				return k
			}
		}
	}
	return key(c.next(60))
}

// anyText is a text that may be asked, or be the end of a range.
func (c *chance) anyText() string {
	switch c.next(6) {
	case 0:
		return ""
	case 1:
		return c.of(odd())
	case 2:
		return c.anyKey() + "\x00"
	}
	return c.anyKey()
}

// change does something with the forest, by chance.
func (p pair) change(t *testing.T, c *chance) {
	t.Helper()
	root := c.next(3)
	switch c.next(16) {
	case 0:
		p.copy(t, root, c.next(3))
	case 1:
		if c.next(6) == 0 {
			p.drop(t, root)
		}
	case 2:
		r := ref(c.next(60))
		p.patch(t, api.Move{Serial: r.Serial, From: r.At, To: c.next(900)})
	case 3:
		p.f.Pack()
	case 4, 5, 6, 7, 8:
		p.delete(t, root, c.anyKey())
	default:
		p.put(t, root, c.anyKey(), ref(c.next(60)))
	}
}

// step does something with the cursor, by chance.
func (w *walk) step(t *testing.T, c *chance) {
	t.Helper()
	switch c.next(12) {
	case 0:
		w.first(t)
	case 1:
		w.last(t)
	case 2, 3:
		w.seek(t, c.anyText())
	case 4, 5, 6:
		w.next(t)
	case 7, 8, 9:
		w.prev(t)
	case 10:
		most := c.next(5)
		for range w.c.Rest() {
			if w.ahead(); most == 0 {
				w.stands(t, "Rest, left")
				return
			}
			most--
		}
		w.ahead()
	}
	w.stands(t, "a step")
}

// Whatever steps are taken, of many cursors over few versions that change meanwhile: each is by itself.
func TestWhateverIsDone(t *testing.T) {
	c := chance(71)
	for range 150 {
		p := newPair(t, 1<<16)
		var walks []*walk
		for range 6 {
			walks = append(walks, p.walk(t, c.next(3), c.anyText(), c.anyText()), p.walk(t, c.next(3), "", c.anyText()), p.walk(t, c.next(3), "", ""))
		}
		for range 400 {
			if c.next(3) == 0 {
				p.change(t, &c)
			}
			walks[c.next(len(walks))].step(t, &c)
			walks[c.next(len(walks))].stands(t, "a step of another")
		}
		for _, w := range walks {
			w.rising(t)
			w.falling(t)
			w.rest(t)
		}
	}
}

// Two cursors of one version, of the same range: the steps of one do not lead the other.
func TestTwoCursors(t *testing.T) {
	p := newPair(t, 1<<13, "a", "b", "c", "d", "e")
	one, other := p.walk(t, 0, "b", ""), p.walk(t, 0, "b", "")
	one.first(t)
	other.stands(t, "First of another")
	other.last(t)
	one.stands(t, "Last of another")
	for is := one.next(t); is; is = one.next(t) {
		other.stands(t, "Next of another")
		other.prev(t)
		one.stands(t, "Prev of another")
	}
	other.rising(t)
	one.stands(t, "steps of another")
	n := 0
	for range one.c.Rest() {
		one.ahead()
		for range other.c.Rest() {
			n++
		}
		one.stands(t, "Rest of another in its midst")
	}
	if n != 16 {
		t.Errorf("P18.3: Rest of two cursors, one in the midst of the other, tells %d", n)
	}
}

// R2: the same steps, of other cursors over other forests with the same keys, are answered alike, also where a cursor is a copy.
func TestAgain(t *testing.T) {
	runs := [][]api.Entry{}
	for range 2 {
		c := chance(5)
		p := newPair(t, 1<<16)
		w := p.walk(t, 1, "", "")
		var l []api.Entry
		for range 500 {
			p.change(t, &c)
			w.step(t, &c)
			e, _ := w.c.Entry()
			l = append(l, e)
		}
		runs = append(runs, l)
	}
	if !slices.Equal(runs[0], runs[1]) {
		t.Error("R2: the same steps are answered otherwise")
	}
	p := newPair(t, 4096, "a", "b", "c")
	one, _ := cursor.New(p.f, 0, "", "")
	one.First()
	other := *one
	goes(t, one, "next b, next c")
	goes(t, &other, "next b")
	goes(t, one, "next -")
	goes(t, &other, "prev a")
}
