package cursor_test

import (
	"slices"
	"strconv"
	"testing"

	"dunnage/api"
	"dunnage/cursor"
)

// taken is the keys that Rest tells, one behind the other, when it is left at the one of that number, and how many those are.
func taken(c *cursor.Cursor, most int) (string, int) {
	s, n := "", 0
	for e := range c.Rest() {
		s += e.Key
		if n++; n == most {
			break
		}
	}
	return s, n
}

// Rest from nowhere and from each key of the range tells what stands behind it, with its refs; then the cursor stands nowhere.
func TestRest(t *testing.T) {
	p := newPair(t, 4096, "a", "b", "c", "d", "e", "f", "g")
	for _, r := range [][2]string{{"", ""}, {"b", "g"}, {"bb", "f"}, {"c", "d"}, {"x", ""}, {"f", "b"}} {
		w := p.walk(t, 0, r[0], r[1])
		w.rest(t)
		w.rest(t)
		for _, k := range w.keys() {
			w.seek(t, k)
			w.rest(t)
			if at(w.c) != "-" {
				t.Errorf("P18.3: behind Rest the cursor stands at %q", at(w.c))
			}
		}
		w.last(t)
		w.rest(t)
		w.next(t)
	}
}

// Who leaves Rest, leaves the cursor there: steps, and Rest itself, go on from that key.
func TestRestIsLeft(t *testing.T) {
	p := newPair(t, 4096, "a", "b", "c", "d", "e", "f", "g")
	all := "bcdef"
	for from := 0; from <= len(all); from++ {
		for most := 1; most <= len(all)-from; most++ {
			for i := range 5 {
				c, _ := cursor.New(p.f, 0, "b", "g")
				if from > 0 {
					c.Seek(all[from-1 : from])
				}
				here := from + most
				if s, n := taken(c, most); s != all[from:here] || n != most {
					t.Fatalf("P18.3: Rest from %d on, left at its entry number %d: %q", from, most, s)
				}
				if at(c) != all[here-1:here] {
					t.Fatalf("P18.3: left at %q the cursor stands at %q", all[here-1:here], at(c))
				}
				switch i {
				case 0:
					if is := c.Next(); is != (here < len(all)) || is && at(c) != all[here:here+1] {
						t.Errorf("P18.3: Next behind Rest, left at %q: %q", all[here-1:here], at(c))
					}
				case 1:
					if is := c.Prev(); is != (here > 1) || is && at(c) != all[here-2:here-1] {
						t.Errorf("P18.3: Prev behind Rest, left at %q: %q", all[here-1:here], at(c))
					}
				case 2:
					if s, _ := taken(c, 99); s != all[here:] {
						t.Errorf("P18.3: Rest behind Rest, left at %q: %q", all[here-1:here], s)
					}
				case 3:
					if s, _ := taken(c, 1); s != all[here:min(here+1, len(all))] {
						t.Errorf("P18.3: Rest behind Rest, left at %q, and left again: %q", all[here-1:here], s)
					}
				}
			}
		}
	}
}

// The same sequence, gone through twice: it steps on from where the cursor stands then, so behind its end from the first key on.
func TestRestTwice(t *testing.T) {
	p := newPair(t, 4096, "a", "b", "c", "d")
	c, _ := cursor.New(p.f, 0, "b", "")
	c.First()
	rest := c.Rest()
	for i, want := range []string{"cd", "bcd", "bcd"} {
		got := ""
		for e := range rest {
			got += e.Key
		}
		if got != want {
			t.Errorf("P18.3: Rest, gone through for the %dth time: %q; want %q", i+1, got, want)
		}
	}
	got := ""
	for range 3 {
		for e := range rest {
			got += e.Key
			break
		}
	}
	if got != "bcd" || at(c) != "d" {
		t.Errorf("P18.3: Rest, left three times: %q, at %q", got, at(c))
	}
	for e := range rest {
		t.Errorf("P18.3: Rest behind the last key: %v", e)
	}
	c.Last()
	c.Prev()
	other := c.Rest()
	c.Seek("a")
	if got := slices.Collect(other); len(got) != 2 || got[0] != (api.Entry{Key: "c", Ref: ref(2)}) {
		t.Errorf("P18.3: Rest, asked ahead of Seek, gone through behind it: %v", got)
	}
}

// Rest that is asked and not gone through takes no step.
func TestRestIsNotGoneThrough(t *testing.T) {
	p := newPair(t, 4096, "a", "b", "c")
	w := p.walk(t, 0, "", "")
	w.c.Rest()
	w.stands(t, "Rest from nowhere, not gone through")
	w.next(t)
	w.c.Rest()
	w.stands(t, "Rest, not gone through")
	w.next(t)
}

// R6: Rest stops as soon as its function answers false, and asks it no more.
func TestRestStops(t *testing.T) {
	p := newPair(t, 4096, "a", "b", "c", "d", "e")
	for most := 1; most <= 5; most++ {
		w := p.walk(t, 0, "", "")
		asked := 0
		w.c.Rest()(func(api.Entry) bool {
			if asked++; asked > most {
				t.Fatal("R6: Rest goes on behind false")
			}
			w.ahead()
			return asked < most
		})
		if asked != most {
			t.Errorf("R6: Rest, left at %d, tells %d", most, asked)
		}
		w.stands(t, "Rest that was left")
	}
	w := p.walk(t, 0, "", "")
	func() {
		defer func() { _ = recover() }()
		for range w.c.Rest() {
			panic("left")
		}
	}()
	w.ahead()
	w.stands(t, "Rest that was left by a panic")
	w.rest(t)
}

// What is done to the version while Rest is gone through is seen at once: what stands ahead is told as it is then, what stands behind is not.
func TestRestOfWhatChanges(t *testing.T) {
	for _, d := range append(deeds(), deed{"Delete of all but the first", func(t *testing.T, p pair) {
		for _, k := range []string{"b", "c", "d", "e", "f", "g"} {
			p.delete(t, 0, k)
		}
	}, ""}, deed{"other refs", func(t *testing.T, p pair) {
		for i, k := range []string{"a", "c", "e", "g"} {
			p.put(t, 0, k, ref(40+i))
			p.patch(t, api.Move{Serial: ref(40 + i).Serial, From: 40 + i, To: 0})
		}
	}, ""}) {
		for stop := 1; stop <= 4; stop++ {
			p := newPair(t, 1<<13, "a", "c", "e", "g")
			for i, k := range []string{"b", "d", "f"} {
				p.put(t, 1, k, ref(20+i))
			}
			w := p.walk(t, 0, "", "")
			n := 0
			for e := range w.c.Rest() {
				if want := w.ahead(); !want || e != (api.Entry{Key: w.key, Ref: p.m[0][w.key]}) {
					t.Fatalf("P18.3: Rest, with %s at its entry number %d: %v; want %q", d.what, stop, e, w.key)
				}
				if n++; n == stop {
					d.do(t, p)
				}
				w.stands(t, d.what)
			}
			if w.ahead() {
				t.Fatalf("P18.3: Rest, with %s at its entry number %d, ends ahead of %q", d.what, stop, w.key)
			}
			w.stands(t, "Rest")
		}
	}
}

// Each key that is told is deleted, or has the next one put behind it: Rest tells what then stands ahead, to the end of the range.
func TestRestOfWhatGoesAndComes(t *testing.T) {
	p := newPair(t, 1<<14)
	for i := range 60 {
		p.put(t, 0, key(i), ref(i))
	}
	w := p.walk(t, 0, key(10), key(50))
	n := 0
	for e := range w.c.Rest() {
		p.delete(t, 0, e.Key)
		n++
	}
	if n != 40 || p.f.Len(0) != 20 || w.c.First() {
		t.Errorf("P18.3: Rest, with a Delete of each: %d told, %d left", n, p.f.Len(0))
	}
	p.put(t, 0, key(10), ref(10))
	n = 10
	for e := range w.c.Rest() {
		if e != (api.Entry{Key: key(n), Ref: ref(n)}) {
			t.Fatalf("P18.3: Rest, with a Put of the next: %v; want %q", e, key(n))
		}
		n++
		p.put(t, 0, key(n), ref(n))
		p.put(t, 0, key(n-5), ref(n))
	}
	if n != 50 {
		t.Errorf("P18.3: Rest, with a Put of the next, ends at %d", n)
	}
}

// Rest steps the one cursor: steps in its midst, and another Rest of it, lead it on from where they come to.
func TestRestWithStepsInItsMidst(t *testing.T) {
	p := newPair(t, 1<<13)
	for i := range 10 {
		p.put(t, 0, strconv.Itoa(i), ref(i))
	}
	c, _ := cursor.New(p.f, 0, "", "")
	once := func(at string, do func()) func(string) {
		return func(k string) {
			if k == at {
				at = ""
				do()
			}
		}
	}
	for _, r := range []struct {
		what string
		do   func(k string)
		want string
	}{
		{"Next", func(string) { c.Next() }, "02468"},
		{"Seek of what is next", func(k string) { c.Seek(k + "!") }, "02468"},
		{"Rest, left,", func(string) { taken(c, 1) }, "02468"},
		{"Next and Prev", func(k string) {
			if k != "9" {
				c.Next()
				c.Prev()
			}
		}, "0123456789"},
		{"Last and Prev, once,", once("4", func() { c.Last(); c.Prev() }), "012349"},
		{"First, once,", once("3", func() { c.First() }), "0123123456789"},
		{"a Seek to nowhere, once,", once("3", func() { c.Seek("z") }), "01230123456789"},
		{"Rest to its end, once,", once("8", func() { taken(c, 99) }), "0123456780123456789"},
	} {
		c.Seek("z")
		got := ""
		for e := range c.Rest() {
			got += e.Key
			r.do(e.Key)
		}
		if got != r.want || at(c) != "-" {
			t.Errorf("P18.3: Rest with %s in its midst: %q, at %q; want %q", r.what, got, at(c), r.want)
		}
	}
}
