package cells_test

import (
	"slices"
	"sync"
	"testing"

	"dunnage/cells"
)

func TestAll(t *testing.T) {
	rows := []struct {
		what string
		w    []uint32
		want []seen
	}{
		{"nil", nil, nil},
		{"no word", words(), nil},
		{"the word 0", words(0), nil},
		{"one word that is not 0", words(hd(1, 0, 0)), nil},
		{"example 1", example(), []seen{{1, 12306}, {4, 4096}}},
		{"a word 0 that is not 0", words(7, hd(1, 0, 0)), []seen{{1, hd(1, 0, 0)}}},
		{"one object of one word", words(0, hd(1, 0, 15)), []seen{{1, hd(1, 0, 15)}}},
		{"one object up to the end", words(0, hd(4, 3, 0), 0, 0, 0), []seen{{1, hd(4, 3, 0)}}},
		{"pointers that may not be", words(0, hd(3, 2, 0), 2, 99, hd(1, 0, 1)), []seen{{1, hd(3, 2, 0)}, {4, hd(1, 0, 1)}}},
		{"words like heads within an object", words(0, hd(3, 0, 0), hd(1, 0, 1), hd(1, 0, 2), hd(1, 0, 3)), []seen{{1, hd(3, 0, 0)}, {4, hd(1, 0, 3)}}},
		{"a 0 at once", words(0, 0, hd(1, 0, 0)), nil},
		{"a 0 behind an object", words(0, hd(2, 0, 0), 5, 0, hd(1, 0, 0)), []seen{{1, hd(2, 0, 0)}}},
		{"a 0 at the end", words(0, hd(1, 0, 0), hd(1, 0, 0), 0), []seen{{1, hd(1, 0, 0)}, {2, hd(1, 0, 0)}}},
		{"a size of 0, of a kind", words(0, hd(0, 0, 5), hd(1, 0, 0)), nil},
		{"as many pointers as words", words(0, hd(1, 1, 0), hd(1, 0, 0)), nil},
		{"more pointers than words", words(0, hd(2, 3, 0), 0, 0, 0), nil},
		{"pointers and one", words(0, hd(2, 1, 0), 0), []seen{{1, hd(2, 1, 0)}}},
		{"one word over the end", words(0, hd(2, 0, 0)), nil},
		{"behind objects, one word over the end", words(0, hd(2, 0, 0), 5, hd(1, 0, 0), hd(3, 0, 0), 5), []seen{{1, hd(2, 0, 0)}, {3, hd(1, 0, 0)}}},
		{"far over the end", words(0, hd(1, 0, 0), hd(sizeMost, 255, 15), 5), []seen{{1, hd(1, 0, 0)}}},
		{"the greatest word", words(0, 0xffffffff), nil},
	}
	for _, r := range rows {
		if got := allOf(t, r.w); !slices.Equal(got, r.want) {
			t.Errorf("P13.2: All of %s: %v; want %v", r.what, got, r.want)
		}
		if want := walked(r.w); !slices.Equal(want, r.want) {
			t.Errorf("the model of %s: %v", r.what, want)
		}
	}
}

// Each list of up to six of these words: heads that may be at some places, and words that are none.
func TestAllOfShortWords(t *testing.T) {
	of := words(0, 5, hd(1, 0, 0), hd(2, 0, 3), hd(2, 1, 0), hd(1, 1, 0), hd(3, 1, 15), hd(6, 0, 0))
	shortWords(6, of, func(w []uint32) {
		if got, want := allOf(t, w), walked(w); !slices.Equal(got, want) {
			t.Fatalf("P13.2: All of %v: %v; want %v", w, got, want)
		}
	})
}

func TestAllOfAnyWords(t *testing.T) {
	c := chance(2)
	for range 50000 {
		w := wordsOf(&c)
		if got, want := allOf(t, w), walked(w); !slices.Equal(got, want) {
			t.Fatalf("P13.2: All of %v: %v; want %v", w, got, want)
		}
	}
}

// For each count of pointers: an object of each size about it, alone, and with words behind it.
func TestAllBelowPointersAndOne(t *testing.T) {
	for p := range ptrsMost + 1 {
		for size := max(p-1, 0); size <= p+2; size++ {
			for _, more := range []int{0, 1, 5} {
				w := make([]uint32, 1+max(size, 1)+more)
				w[1] = hd(size, p, 1)
				told := len(allOf(t, w))
				if want := len(walked(w)); told != want || (told == 1) != (size > p) {
					t.Fatalf("P13.2: All of an object of %d words and %d pointers, %d words behind it: tells %d", size, p, more, told)
				}
			}
		}
	}
}

// An object that ends ahead of the end, with it, and behind it, for each size of some and each place of some.
func TestAllAtTheEnd(t *testing.T) {
	for ahead := range 4 {
		for _, size := range []int{1, 2, 3, 17, 255, 256, 4096, 70000} {
			w := words(0)
			for range ahead {
				w = append(w, hd(1, 0, 4))
			}
			w = append(append(w, hd(size, 0, 1)), make([]uint32, size+1)...)
			for over := -1; over <= 2; over++ {
				cut := w[:1+ahead+max(size-over, 1)]
				got, want := allOf(t, cut), walked(cut)
				if !slices.Equal(got, want) {
					t.Fatalf("P13.2: All, an object of %d words, %d over the end: %v; want %v", size, over, got, want)
				}
			}
		}
	}
}

// Heaps of as many words as may be, and of more: All looks at no count of words.
func TestAllOfGreatHeaps(t *testing.T) {
	for _, n := range []int{wordsMost - 1, wordsMost, wordsMost + 1, 3 * wordsMost} {
		w := make([]uint32, n)
		for i := range w[1:] {
			w[1+i] = hd(1, 0, i%16)
		}
		at := 1
		for place, h := range cells.All(w) {
			if place != at || h != w[at] {
				t.Fatalf("P13.2: All of %d words, at %d: %d, %#x", n, at, place, h)
			}
			at++
		}
		if at != n {
			t.Errorf("P13.2: All of %d words ends at %d", n, at)
		}
	}
	w := make([]uint32, 2*wordsMost)
	w[1], w[1+sizeMost], w[1+sizeMost+3] = hd(sizeMost, 255, 15), hd(3, 0, 1), hd(sizeMost-2, 7, 0)
	if got, want := allOf(t, w), []seen{{1, w[1]}, {1 + sizeMost, w[1+sizeMost]}, {4 + sizeMost, w[4+sizeMost]}}; !slices.Equal(got, want) {
		t.Errorf("P13.2: All of great objects: %v; want %v", got, want)
	}
}

// many is a heap of some objects of unlike sizes.
func many() []uint32 {
	c := chance(3)
	w, _ := heapOf(&c, 12)
	return w
}

// A sequence may be left at any object, and begins at the first one again.
func TestAllIsLeft(t *testing.T) {
	want := walked(many())
	all := cells.All(many())
	for at := range len(want) + 1 {
		for range 2 {
			var got []seen
			for place, h := range all {
				if got = append(got, seen{place, h}); len(got) > at {
					break
				}
			}
			if !slices.Equal(got, want[:min(at+1, len(want))]) {
				t.Fatalf("P13.2: All, left at %d: %v", at, got)
			}
		}
		if got := gathered(all); !slices.Equal(got, want) {
			t.Fatalf("P13.2: All, gone through again behind being left at %d: %v", at, got)
		}
	}
}

// R6: a sequence stops as soon as its function answers false, and asks it no more.
func TestAllStops(t *testing.T) {
	all := cells.All(many())
	for at := 1; at <= len(walked(many())); at++ {
		asked := 0
		all(func(int, uint32) bool {
			if asked++; asked > at {
				t.Fatal("R6: All goes on behind false")
			}
			return asked < at
		})
		if asked != at {
			t.Errorf("R6: All, left at %d, tells %d", at, asked)
		}
	}
}

// A sequence that is gone through in its own midst, or was left by a panic, tells what it would have told.
func TestAllInTheMidst(t *testing.T) {
	want := walked(many())
	all := cells.All(many())
	var got []seen
	for at, h := range all {
		got = append(got, seen{at, h})
		if inner := gathered(all); !slices.Equal(inner, want) {
			t.Fatalf("P13.2: All in the midst of itself: %v", inner)
		}
		for range all {
			break
		}
	}
	if !slices.Equal(got, want) {
		t.Errorf("P13.2: All with itself in its midst: %v", got)
	}
	func() {
		defer func() { _ = recover() }()
		for range all {
			panic("left")
		}
	}()
	if got := gathered(all); !slices.Equal(got, want) {
		t.Errorf("P13.2: All behind a panic: %v", got)
	}
}

// R2: goings through at the same time know nothing of one another.
func TestAllSideBySide(t *testing.T) {
	want := walked(many())
	all := cells.All(many())
	var work sync.WaitGroup
	bad := make([]bool, 8)
	for i := range bad {
		work.Go(func() {
			for range 200 {
				bad[i] = bad[i] || !slices.Equal(gathered(all), want)
			}
		})
	}
	work.Wait()
	if slices.Contains(bad, true) {
		t.Error("R2: a sequence that is gone through side by side tells something else")
	}
}

// R6: a sequence tells what was there when it was asked for, whatever is written into the words behind that, and while it is gone through.
func TestAllTellsWhatWasThere(t *testing.T) {
	c := chance(4)
	for range 2000 {
		w := wordsOf(&c)
		want, given := walked(w), slices.Clone(w)
		all := cells.All(given)
		spoil(given, c.word())
		if got := gathered(all); !slices.Equal(got, want) {
			t.Fatalf("R6: All of %v, behind writing into them: %v; want %v", w, got, want)
		}
	}
	want := walked(many())
	for at := range want {
		given := many()
		all := cells.All(given)
		var got []seen
		for place, h := range all {
			if got = append(got, seen{place, h}); len(got) == at+1 {
				spoil(given, hd(1, 0, 9))
			}
		}
		if !slices.Equal(got, want) || !slices.Equal(gathered(all), want) {
			t.Fatalf("R6: All of words that are written into at %d: %v; want %v", at, got, want)
		}
	}
}

// Words that are mended behind a call, or made longer, are no more told.
func TestAllTellsNoMore(t *testing.T) {
	given := words(0, hd(1, 0, 0), 0, hd(1, 0, 0))
	all, one := cells.All(given), cells.All(given[:2])
	given[2] = hd(1, 0, 0)
	if got, want := gathered(all), []seen{{1, hd(1, 0, 0)}}; !slices.Equal(got, want) || !slices.Equal(gathered(one), want) {
		t.Errorf("R6: All of words that were mended behind it: %v", got)
	}
}

// spoil writes into all words, and into the room behind them.
func spoil(w []uint32, v uint32) {
	for i := range w[:cap(w)] {
		w[:cap(w)][i] = v
	}
}
