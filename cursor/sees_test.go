package cursor_test

import (
	"slices"
	"testing"
)

// deed is something done to a forest, and what the version 0 then has.
type deed struct {
	what string
	do   func(t *testing.T, p pair)
	then string
}

func deeds() []deed {
	return []deed{
		{"nothing", func(t *testing.T, p pair) {}, "aceg"},
		{"Put of a key", func(t *testing.T, p pair) { p.put(t, 0, "d", ref(9)) }, "acdeg"},
		{"Put of the least key", func(t *testing.T, p pair) { p.put(t, 0, "A", ref(9)) }, "Aaceg"},
		{"Put of the greatest key", func(t *testing.T, p pair) { p.put(t, 0, "z", ref(9)) }, "acegz"},
		{"Delete", func(t *testing.T, p pair) { p.delete(t, 0, "c") }, "aeg"},
		{"Delete of the ends", func(t *testing.T, p pair) { p.delete(t, 0, "a"); p.delete(t, 0, "g") }, "ce"},
		{"Copy to it", func(t *testing.T, p pair) { p.copy(t, 1, 0) }, "bdf"},
		{"Copy of an empty one to it", func(t *testing.T, p pair) { p.copy(t, 2, 0) }, ""},
		{"Copy to itself", func(t *testing.T, p pair) { p.copy(t, 0, 0) }, "aceg"},
		{"Drop", func(t *testing.T, p pair) { p.drop(t, 0) }, ""},
		{"Drop, and keys anew", func(t *testing.T, p pair) { p.drop(t, 0); p.put(t, 0, "f", ref(8)) }, "f"},
		{"Copy from it", func(t *testing.T, p pair) { p.copy(t, 0, 3) }, "aceg"},
		{"Copy from it, and Drop of the other", func(t *testing.T, p pair) { p.copy(t, 0, 3); p.drop(t, 3) }, "aceg"},
		{"Copy from it, and changes of the other", func(t *testing.T, p pair) {
			p.copy(t, 0, 3)
			p.delete(t, 3, "c")
			p.put(t, 3, "d", ref(9))
			p.put(t, 3, "e", ref(10))
		}, "aceg"},
		{"Put to another", func(t *testing.T, p pair) { p.put(t, 1, "c", ref(5)); p.put(t, 2, "d", ref(6)) }, "aceg"},
		{"Delete of another", func(t *testing.T, p pair) { p.delete(t, 1, "d"); p.delete(t, 1, "c") }, "aceg"},
		{"Drop of another, and Pack", func(t *testing.T, p pair) { p.drop(t, 1); p.f.Pack() }, "aceg"},
	}
}

// A cursor sees the version as it is at each call, from wherever it stands, and nothing of other versions.
func TestTheVersionAsItIs(t *testing.T) {
	for _, d := range deeds() {
		for _, r := range [][2]string{{"", ""}, {"b", "f"}, {"d", ""}, {"", "d"}} {
			for _, from := range []string{"", "a", "c", "e", "g"} {
				for i := range 5 {
					p := newPair(t, 1<<13, "a", "c", "e", "g")
					for i, k := range []string{"b", "d", "f"} {
						p.put(t, 1, k, ref(20+i))
					}
					w := p.walk(t, 0, r[0], r[1])
					if from != "" {
						w.seek(t, from)
					}
					d.do(t, p)
					w.stands(t, d.what)
					switch i {
					case 0:
						w.next(t)
					case 1:
						w.prev(t)
					case 2:
						w.rest(t)
					case 3:
						w.seek(t, "d")
					}
					w.rising(t)
					w.falling(t)
				}
			}
		}
	}
}

// The deeds do what is written beside them.
func TestDeeds(t *testing.T) {
	for _, d := range deeds() {
		p := newPair(t, 1<<13, "a", "c", "e", "g")
		for i, k := range []string{"b", "d", "f"} {
			p.put(t, 1, k, ref(20+i))
		}
		d.do(t, p)
		got := ""
		w := p.walk(t, 0, "", "")
		for e := range w.c.Rest() {
			got += e.Key
		}
		if got != d.then {
			t.Errorf("P18.1: a cursor over a version behind %s: %q; want %q", d.what, got, d.then)
		}
	}
}

// Keys that come and go between two steps are told just where they stand ahead.
func TestKeysBetweenSteps(t *testing.T) {
	p := newPair(t, 1<<13, "b", "d", "f", "h")
	w := p.walk(t, 0, "", "")
	w.next(t)
	p.put(t, 0, "a", ref(11))
	p.put(t, 0, "c", ref(12))
	p.delete(t, 0, "d")
	goes(t, w.c, "next c, next f")
	p.put(t, 0, "f\x00", ref(13))
	p.put(t, 0, "e", ref(14))
	goes(t, w.c, "next f\x00, prev f, prev e")
	p.delete(t, 0, "b")
	p.delete(t, 0, "c")
	p.delete(t, 0, "e")
	goes(t, w.c, "prev a, prev -, prev h")
	p.delete(t, 0, "h")
	goes(t, w.c, "prev f\x00")
	p.put(t, 0, "f\x00\x00", ref(15))
	goes(t, w.c, "next f\x00\x00, next -")
}

// A cursor changes nothing: no key, no ref, no word of the forest; so it asks for no room, either.
func TestCursorsChangeNothing(t *testing.T) {
	p := newPair(t, 400)
	n := 0
	for p.f.Put(0, key(n), ref(n)) == 0 {
		p.m[0][key(n)] = ref(n)
		n++
	}
	if n < 5 {
		t.Fatalf("btree has room for %d keys", n)
	}
	used, refs := p.f.Used(), p.f.Refs()
	w := p.walk(t, 0, key(1), key(n-1))
	w.rising(t)
	w.falling(t)
	w.rest(t)
	w.seek(t, key(2))
	if p.f.Used() != used || p.f.Len(0) != n || !slices.Equal(p.f.Refs(), refs) {
		t.Errorf("R2: a cursor has changed the forest: %d words used, then %d; %d keys, then %d", used, p.f.Used(), n, p.f.Len(0))
	}
	for root := 1; root < rootsMost; root++ {
		if p.f.Len(root) != 0 {
			t.Errorf("R2: a cursor has changed version %d", root)
		}
	}
	p.walk(t, 0, "", "").rising(t)
}
