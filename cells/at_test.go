package cells_test

import (
	"math"
	"strconv"
	"testing"

	"dunnage/api"
	"dunnage/cells"
)

// same holds what At answers against the model.
func same(t *testing.T, what string, w []uint32, at int) {
	t.Helper()
	got, e := cells.At(w, at)
	want, err := found(w, at)
	if e != err || !sameObject(got, want) {
		t.Fatalf("P13.3: At(%s, %d): %v, error %d; want %v, error %d", what, at, got, e, want, err)
	}
	if e != api.OK && (got.Ptrs != nil || got.Data != nil) {
		t.Fatalf("R4: At(%s, %d): %v beside error %d", what, at, got, e)
	}
}

// nowhere is places that no heap has.
func nowhere() []int {
	return []int{math.MinInt, math.MinInt + 1, math.MinInt32, -1 << 32, -4096, -2, -1, 0, 1 << 20, 1<<31 - 1, 1 << 31, 1 << 32, 1<<32 + 1, 1 << 52, math.MaxInt - 1, math.MaxInt}
}

func TestAt(t *testing.T) {
	w := example()
	rows := []struct {
		what string
		w    []uint32
		at   int
		want api.Object
	}{
		{"example 1", w, 1, api.Object{Kind: 2, Ptrs: []int{4}, Data: words(9)}},
		{"example 1", w, 4, api.Object{}},
		{"all words are pointers", words(0, hd(3, 2, 1), 1, 0), 1, api.Object{Kind: 1, Ptrs: []int{1, 0}}},
		{"no word is a pointer", words(0, hd(3, 0, 15), 1, 0), 1, api.Object{Kind: 15, Data: words(1, 0)}},
		{"the greatest words", words(0, hd(3, 1, 0), 1<<32-1, 1<<32-1), 1, api.Object{Ptrs: []int{1<<32 - 1}, Data: words(1<<32 - 1)}},
		{"pointers that may not be", words(0, hd(4, 2, 0), 2, 1<<31, 7), 1, api.Object{Ptrs: []int{2, 1 << 31}, Data: words(7)}},
		{"words like heads", words(0, hd(3, 1, 0), hd(1, 0, 0), hd(2, 0, 0)), 1, api.Object{Ptrs: []int{4096}, Data: words(8192)}},
		{"a word 0 that is not 0", words(9, hd(1, 0, 3)), 1, api.Object{Kind: 3}},
		{"ahead of a word that is no head", words(0, hd(2, 0, 4), 8, 0), 1, api.Object{Kind: 4, Data: words(8)}},
		{"ahead of one that goes over the end", words(0, hd(2, 0, 4), 8, hd(2, 0, 0)), 1, api.Object{Kind: 4, Data: words(8)}},
	}
	for _, r := range rows {
		if got, e := cells.At(r.w, r.at); e != api.OK || !sameObject(got, r.want) {
			t.Errorf("P13.3: At(%s, %d): %v, error %d; want %v", r.what, r.at, got, e, r.want)
		}
		same(t, r.what, r.w, r.at)
	}
}

func TestAtOfNone(t *testing.T) {
	rows := []struct {
		what string
		w    []uint32
		at   []int
	}{
		{"nil", nil, []int{0, 1, 2}},
		{"no word", words(), []int{0, 1}},
		{"the word 0", words(0), []int{0, 1, 2}},
		{"one word, a head", words(hd(1, 0, 0)), []int{0, 1}},
		{"example 1", example(), []int{0, 2, 3, 5, 6}},
		{"room behind", append(example(), hd(1, 0, 0))[:5], []int{5, 6}},
		{"no head at once", words(0, 0, hd(1, 0, 0)), []int{0, 1, 2, 3}},
		{"behind a word that is no head", words(0, hd(1, 0, 0), hd(1, 1, 0), hd(1, 0, 0)), []int{0, 2, 3, 4}},
		{"over the end", words(0, hd(1, 0, 0), hd(3, 0, 0), hd(1, 0, 0)), []int{0, 2, 3, 4, 5}},
		{"a head within an object", words(0, hd(3, 1, 0), hd(1, 0, 0), hd(1, 0, 0)), []int{0, 2, 3, 4}},
	}
	for _, r := range rows {
		for _, at := range append(r.at, nowhere()...) {
			if got, e := cells.At(r.w, at); e != api.ErrNone || !sameObject(got, api.Object{}) {
				t.Errorf("P13.3: At(%s, %d): %v, error %d; want ErrNone", r.what, at, got, e)
			}
			same(t, r.what, r.w, at)
		}
	}
}

// Each place of each list of up to five words, and of words by chance: what All tells is there, and nothing else.
func TestAtOfEachPlace(t *testing.T) {
	of := words(0, 5, hd(1, 0, 1), hd(2, 0, 3), hd(2, 1, 0), hd(1, 1, 0), hd(3, 1, 15), hd(4, 2, 7))
	shortWords(5, of, func(w []uint32) {
		for at := -1; at <= len(w)+1; at++ {
			same(t, strconv.Itoa(len(w))+" words", w, at)
		}
	})
	c := chance(31)
	for range 10000 {
		w := wordsOf(&c)
		for at := -1; at <= len(w)+1; at++ {
			same(t, strconv.Itoa(len(w))+" words", w, at)
		}
		for _, at := range nowhere() {
			same(t, strconv.Itoa(len(w))+" words", w, at)
		}
	}
}

// Each count of pointers, with none and some words behind them.
func TestAtOfEachCount(t *testing.T) {
	for n := range ptrsMost + 1 {
		for more := range 3 {
			w := words(0, hd(1, 0, 0), hd(1+n+more, n, n%16))
			for i := range n + more {
				w = append(w, uint32(1000000000+i))
			}
			got, e := cells.At(w, 2)
			if e != api.OK || got.Kind != n%16 || len(got.Ptrs) != n || len(got.Data) != more {
				t.Fatalf("P13.3: At of %d pointers and %d words: %d, %d, kind %d, error %d", n, more, len(got.Ptrs), len(got.Data), got.Kind, e)
			}
			same(t, strconv.Itoa(n)+" pointers", w, 2)
		}
	}
}

func TestAtOfGreatHeaps(t *testing.T) {
	w := make([]uint32, wordsMost+1000)
	for i := range w[1:] {
		w[1+i] = hd(1, 0, i%16)
	}
	for _, at := range []int{0, 1, 2, 70000, wordsMost - 1, wordsMost, wordsMost + 999, wordsMost + 1000} {
		same(t, "small objects", w, at)
	}
	w[1] = hd(sizeMost, 255, 9)
	for _, at := range []int{0, 1, 2, 256, 257, 258, sizeMost, sizeMost + 1, sizeMost + 2} {
		same(t, "a great object", w, at)
	}
}
