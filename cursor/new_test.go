package cursor_test

import (
	"math"
	"slices"
	"testing"

	"dunnage/api"
	"dunnage/btree"
	"dunnage/cursor"
)

func noRoots() []int {
	return []int{-1, rootsMost, rootsMost + 1, -rootsMost, math.MinInt, math.MaxInt, 1 << 32, -1 << 32, 1<<32 + 1}
}

// New of a nil forest, and of roots that are no versions; of two faults the first one counts.
func TestNewRefuses(t *testing.T) {
	p := newPair(t, 4096, "a", "b")
	for _, text := range []string{"", "a", "c", top() + "a"} {
		for root := range rootsMost {
			if c, e := cursor.New(nil, root, "a", text); c != nil || e != api.ErrNil {
				t.Errorf("P18.1: New of no forest, version %d: %v, error %d; want ErrNil", root, c, e)
			}
		}
		for _, root := range noRoots() {
			if c, e := cursor.New(p.f, root, text, "b"); c != nil || e != api.ErrArg {
				t.Errorf("P18.1: New of version %d: %v, error %d; want ErrArg", root, c, e)
			}
			if c, e := cursor.New(nil, root, "b", text); c != nil || e != api.ErrNil {
				t.Errorf("R5: New of no forest, version %d: %v, error %d; want ErrNil", root, c, e)
			}
		}
	}
}

// New of each version: each cursor goes by its own.
func TestNewOfEachVersion(t *testing.T) {
	p := newPair(t, 1<<16)
	for root := range rootsMost {
		for i := range root {
			p.put(t, root, key(i*(root+1)), ref(root*100+i))
		}
	}
	for root := range rootsMost {
		w := p.walk(t, root, "", "")
		w.rising(t)
		w.falling(t)
		if n := len(w.keys()); n != root {
			t.Errorf("the model's keys of version %d: %d", root, n)
		}
	}
}

// Any two texts are a range: ordinary ones, those that no key is, empty ones and turned ones.
func TestNewOfAnyRange(t *testing.T) {
	l := texts("\x00b\xff", 2)
	p := newPair(t, 1<<16)
	for i, k := range append(texts("\x00b\xff", 3)[1:], odd()...) {
		if may(k) {
			p.put(t, 0, k, ref(i))
		}
	}
	for _, lo := range append(slices.Clone(l), odd()...) {
		for _, hi := range append(slices.Clone(l), odd()...) {
			w := p.walk(t, 0, lo, hi)
			for is, n := w.first(t), 0; is && n < 3; n++ {
				is = w.next(t)
			}
			for is, n := w.last(t), 0; is && n < 3; n++ {
				is = w.prev(t)
			}
		}
	}
}

// An empty range, and a turned one, have no keys, whatever is asked from wherever.
func TestNewOfRangesWithoutKeys(t *testing.T) {
	p := newPair(t, 4096, "a", "b", "c", "d", "e")
	for _, r := range [][2]string{{"c", "c"}, {"d", "b"}, {"e", "a"}, {"c\x00", "d"}, {"f", ""}, {"", "a"}, {"", "\x00"}, {"b\xff", "c"}, {top(), "\x00"}} {
		w := p.walk(t, 0, r[0], r[1])
		for _, is := range []bool{w.first(t), w.last(t), w.next(t), w.prev(t), w.seek(t, ""), w.seek(t, "c"), w.seek(t, "z")} {
			if is {
				t.Errorf("P18.1: from %q to %q there is a key", r[0], r[1])
			}
		}
		for e := range w.c.Rest() {
			t.Errorf("P18.3: Rest from %q to %q: %v", r[0], r[1], e)
		}
		w.stands(t, "Rest")
	}
}

// A forest that was not made by btree.New has no keys.
func TestNewOfAnUnmadeForest(t *testing.T) {
	c, _ := cursor.New(&btree.Forest{}, 0, "", "")
	holdsNothing(t, "of a forest that was not made", c)
}
