package cursor_test

import (
	"testing"

	"dunnage/api"
)

// Entry tells the ref as it is now, and nothing where the key is gone; the cursor stands there all the same.
func TestEntryIsAsItIsNow(t *testing.T) {
	p := newPair(t, 4096, "a", "c", "e")
	w := p.walk(t, 0, "b", "")
	w.first(t)
	for i := range 5 {
		p.put(t, 0, "c", ref(10+i))
		w.stands(t, "Put of another ref")
		p.patch(t, api.Move{Serial: ref(10 + i).Serial, From: 10 + i, To: 600})
		w.stands(t, "Patch")
		p.delete(t, 0, "c")
		w.stands(t, "Delete")
		p.put(t, 0, "d", ref(30+i))
		w.stands(t, "Put of the key behind the one that is gone")
		p.put(t, 0, "c", ref(20+i))
		w.stands(t, "Put of the key that was gone")
		p.delete(t, 0, "d")
		p.f.Pack()
		w.stands(t, "Pack")
	}
	w.next(t)
	if w.key != "e" {
		t.Errorf("P18.2: Next of c: %q", w.key)
	}
}

// Entry from nowhere tells nothing: ahead of all steps, and behind a step that leads nowhere, also when keys come.
func TestEntryNowhere(t *testing.T) {
	p := newPair(t, 4096)
	w := p.walk(t, 0, "", "")
	for _, step := range []func(*testing.T) bool{func(*testing.T) bool { return false }, w.first, w.last, w.next, w.prev} {
		step(t)
		p.put(t, 0, "a", ref(1))
		p.put(t, 0, "\x00", ref(2))
		if e, is := w.c.Entry(); e != (api.Entry{}) || is {
			t.Errorf("P18.2: Entry from nowhere: %v, %v", e, is)
		}
		p.drop(t, 0)
	}
}

// gone is the ways in which the keys b to f of the version 0 are gone, but those that are told to stay; other keys stay.
func gone(t *testing.T, p pair, stay string) []func() {
	away := func() []string {
		var l []string
		for _, k := range []string{"b", "c", "d", "e", "f"} {
			if k != stay {
				l = append(l, k)
			}
		}
		return l
	}
	return []func(){
		func() {
			for _, k := range away() {
				p.delete(t, 0, k)
			}
		},
		func() {
			p.copy(t, 0, 1)
			for _, k := range away() {
				p.delete(t, 1, k)
			}
			p.copy(t, 1, 0)
		},
		func() {
			kept, is := p.m[0][stay]
			p.drop(t, 0)
			p.put(t, 0, "a", ref(7))
			p.put(t, 0, "g", ref(8))
			if is {
				p.put(t, 0, stay, kept)
			}
			p.f.Pack()
		},
	}
}

// Next and Prev from a key that is gone lead to those that are nearest to it, whether they came behind it or were there.
func TestStepsFromAKeyThatIsGone(t *testing.T) {
	steps := []func(w *walk) bool{
		func(w *walk) bool { return w.next(t) },
		func(w *walk) bool { return w.prev(t) },
		func(w *walk) bool { return w.first(t) },
		func(w *walk) bool { return w.last(t) },
		func(w *walk) bool { return w.seek(t, "d") },
	}
	for way := range 3 {
		for _, from := range []string{"b", "c", "d", "e", "f"} {
			for _, stay := range []string{"", "b", "c", "d", "e", "f"} {
				for _, came := range []string{"", "c\xff", "d\x00", "d", "e"} {
					for i, step := range steps {
						p := newPair(t, 1<<14, "a", "b", "c", "d", "e", "f", "g")
						w := p.walk(t, 0, "b", "g")
						w.seek(t, from)
						gone(t, p, stay)[way]()
						w.stands(t, "its key is gone")
						if came != "" {
							p.put(t, 0, came, ref(99))
						}
						w.stands(t, "another key came")
						if step(w); i == 0 && w.is && w.key <= from || i == 1 && w.is && w.key >= from {
							t.Fatalf("P18.2: a step from %q, which is gone: %q", from, w.key)
						}
					}
				}
			}
		}
	}
}

// The cursor still stands at a key that is gone when that is put again, however long ago it was.
func TestTheKeyIsPutAgain(t *testing.T) {
	p := newPair(t, 1<<14, "a", "b", "c")
	w := p.walk(t, 0, "", "")
	w.seek(t, "b")
	p.drop(t, 0)
	for i := range 50 {
		p.put(t, 0, key(i), ref(i))
		w.stands(t, "Put of others")
		p.copy(t, 0, 1+i%15)
	}
	p.put(t, 0, "b", ref(77))
	if e, is := w.c.Entry(); !is || e != (api.Entry{Key: "b", Ref: ref(77)}) {
		t.Errorf("P18.2: Entry of a key that was put again: %v, %v", e, is)
	}
	w.next(t)
	w.prev(t)
	w.prev(t)
}
