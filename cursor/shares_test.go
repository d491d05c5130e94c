package cursor_test

import (
	"slices"
	"strings"
	"sync"
	"testing"

	"dunnage/api"
	"dunnage/cursor"
)

// R3: texts that are made of bytes which are written into behind the call stay what they were for the cursor.
func TestWhatIsHandedInStays(t *testing.T) {
	p := newPair(t, 4096, "a", "b", "c", "d", "e")
	lo, hi, sought := []byte("b"), []byte("e"), []byte("d")
	c, _ := cursor.New(p.f, 0, string(lo), string(hi))
	c.Seek(string(sought))
	for _, b := range [][]byte{lo, hi, sought} {
		b[0] = 'z'
	}
	if at(c) != "d" {
		t.Errorf("R3: behind Seek of a text whose bytes were written into: at %q", at(c))
	}
	goes(t, c, "first b, last d, next -")
	l := []string{"b", "e", "d"}
	c, _ = cursor.New(p.f, 0, l[0], l[1])
	c.Seek(l[2])
	if !slices.Equal(l, []string{"b", "e", "d"}) {
		t.Errorf("R3: texts that were handed in: %q", l)
	}
}

// R3: what was told stays as it is, whatever becomes of the version.
func TestWhatWasToldStays(t *testing.T) {
	p := newPair(t, 1<<14)
	for i := range 20 {
		p.put(t, 0, key(i), ref(i))
	}
	c, _ := cursor.New(p.f, 0, "", "")
	told := slices.Collect(c.Rest())
	c.Seek(key(7))
	e, _ := c.Entry()
	for i := range 20 {
		p.delete(t, 0, key(i))
		p.put(t, 0, "x"+key(i), ref(i+50))
		p.f.Pack()
	}
	for i, x := range told {
		if x != (api.Entry{Key: key(i), Ref: ref(i)}) {
			t.Errorf("R3: what Rest told has changed: %v", x)
		}
	}
	if e != (api.Entry{Key: key(7), Ref: ref(7)}) || len(told) != 20 {
		t.Errorf("R3: what Entry told has changed: %v", e)
	}
}

// A range whose ends are parts of a greater text, and a Seek of one, are those parts alone.
func TestTextsThatArePartsOfOthers(t *testing.T) {
	text := strings.Repeat("abcdefgh", 1000)
	p := newPair(t, 4096, "a", "ab", "abc", "abcd", "b", "bc", "c", "d")
	w := p.walk(t, 0, text[:2], text[2:3])
	w.rising(t)
	w.falling(t)
	w.seek(t, text[1:2])
	w.seek(t, text)
	w.seek(t, text[1:])
}

// R2: cursors over one forest, side by side, each answer what they answer alone.
func TestSideBySide(t *testing.T) {
	p := newPair(t, 1<<16)
	for i := range 200 {
		p.put(t, i%2, key(i), ref(i))
	}
	want := [2][]api.Entry{}
	for root := range want {
		c, _ := cursor.New(p.f, root, "", "")
		want[root] = slices.Collect(c.Rest())
	}
	var work sync.WaitGroup
	bad := make([]bool, 8)
	for i := range bad {
		work.Go(func() {
			root := i % 2
			for range 10 {
				c, _ := cursor.New(p.f, root, "", "")
				falls := []api.Entry{}
				for is := c.Last(); is; is = c.Prev() {
					e, _ := c.Entry()
					falls = append(falls, e)
				}
				slices.Reverse(falls)
				bad[i] = bad[i] || !slices.Equal(falls, want[root]) || !slices.Equal(slices.Collect(c.Rest()), want[root]) ||
					!c.Seek(key(100)) || at(c) != key(100+root)
			}
		})
	}
	work.Wait()
	if slices.Contains(bad, true) || len(want[0]) != 100 || len(want[1]) != 100 {
		t.Error("R2: cursors side by side answer something else")
	}
}
