package cells_test

import (
	"math"
	"slices"
	"strconv"
	"testing"

	"dunnage/api"
	"dunnage/cells"
)

// check asks Check, and the model, for that error.
func check(t *testing.T, what string, w []uint32, roots []int, want api.Errno) {
	t.Helper()
	if e := cells.Check(w, roots); e != want {
		t.Fatalf("P13.2: Check of %s: error %d; want %d", what, e, want)
	}
	if e := checked(w, roots); e != want {
		t.Fatalf("the model of %s: error %d; want %d", what, e, want)
	}
}

func TestCheck(t *testing.T) {
	rows := []struct {
		what  string
		w     []uint32
		roots []int
		want  api.Errno
	}{
		{"example 1", example(), []int{1, 4, 0}, api.OK},
		{"nil", nil, nil, api.ErrForm},
		{"no word", words(), nil, api.ErrForm},
		{"no word, with a root 0", nil, []int{0}, api.ErrForm},
		{"the word 0", words(0), nil, api.OK},
		{"the word 0, with roots 0", words(0), []int{0, 0}, api.OK},
		{"the word 0, with a root 1", words(0), []int{1}, api.ErrForm},
		{"a word 0 that is 1", words(1), nil, api.ErrForm},
		{"a word 0 that is a head", words(hd(1, 0, 0)), nil, api.ErrForm},
		{"a word 0 that is a head, ahead of an object", words(hd(2, 0, 0), hd(1, 0, 0)), nil, api.ErrForm},
		{"a word 0 of its highest bit alone", words(1<<31, hd(1, 0, 0)), nil, api.ErrForm},
		{"one object", words(0, hd(1, 0, 0)), []int{1}, api.OK},
		{"an object of a word more", words(0, hd(2, 0, 0)), nil, api.ErrForm},
		{"an object of a word less", words(0, hd(2, 0, 0), 1, 2), nil, api.ErrForm},
		{"a 0 at the end", words(0, hd(1, 0, 0), 0), nil, api.ErrForm},
		{"a 0 for a head", words(0, 0), nil, api.ErrForm},
		{"as many pointers as words", words(0, hd(1, 1, 0)), nil, api.ErrForm},
		{"as many pointers as words, ahead of an object", words(0, hd(2, 2, 0), 0, hd(1, 0, 0)), nil, api.ErrForm},
		{"a pointer to itself", words(0, hd(2, 1, 0), 1), nil, api.OK},
		{"pointers back and forward", words(0, hd(2, 1, 0), 3, hd(2, 1, 0), 1), []int{3, 3}, api.OK},
		{"a pointer to itself, not to its head", words(0, hd(2, 1, 0), 2), nil, api.ErrForm},
		{"a pointer to the end", words(0, hd(2, 1, 0), 3), nil, api.ErrForm},
		{"other words are no pointers", words(0, hd(3, 1, 0), 1, 2), nil, api.OK},
		{"the second pointer of two is none", words(0, hd(3, 2, 0), 1, 2), nil, api.ErrForm},
		{"a pointer of 2^31", words(0, hd(2, 1, 0), 1<<31), nil, api.ErrForm},
		{"a pointer of 2^32 - 1", words(0, hd(2, 1, 0), 1<<32-1), nil, api.ErrForm},
		{"a root -1", example(), []int{-1}, api.ErrForm},
		{"a root within", example(), []int{1, 2}, api.ErrForm},
		{"a root at the end", example(), []int{5}, api.ErrForm},
		{"a root beyond the end", example(), []int{0, 6}, api.ErrForm},
		{"a root in the room behind", append(example(), hd(1, 0, 0))[:5], []int{5}, api.ErrForm},
		{"an object in the room behind", append(words(0, hd(2, 0, 0)), 0)[:2], nil, api.ErrForm},
	}
	for _, r := range rows {
		check(t, r.what, r.w, r.roots, r.want)
	}
}

func TestCheckOfShortWords(t *testing.T) {
	of := words(0, 1, 2, 3, hd(1, 0, 0), hd(2, 0, 3), hd(2, 1, 0), hd(1, 1, 0), hd(3, 2, 15))
	shortWords(5, of, func(w []uint32) {
		for _, roots := range [][]int{nil, {1}, {3, 0}} {
			if e, want := cells.Check(w, roots), checked(w, roots); e != want {
				t.Fatalf("P13.2: Check(%v, %v): error %d; want %d", w, roots, e, want)
			}
		}
	})
}

func TestCheckOfAnyWords(t *testing.T) {
	c := chance(21)
	for range 50000 {
		w := wordsOf(&c)
		var roots []int
		for _, x := range walked(w) {
			if c.next(2) == 0 {
				roots = append(roots, x.at)
			}
		}
		if c.next(4) == 0 {
			roots = append(roots, c.next(len(w)+3)-1)
		}
		if e, want := cells.Check(w, roots), checked(w, roots); e != want {
			t.Fatalf("P13.2: Check(%v, %v): error %d; want %d", w, roots, e, want)
		}
	}
}

// A heap of some objects, in which each pointer in turn, and each root in turn, is each place, and places far away.
func TestCheckOfEachPlace(t *testing.T) {
	c := chance(22)
	w, at := heapOf(&c, 8)
	may := append([]int{0}, at...)
	roots := make([]int, rootsMost)
	for i := range roots {
		roots[i] = may[c.next(len(may))]
	}
	check(t, "a heap", w, roots, api.OK)
	to := []int{1 << 16, 1 << 20, 1<<31 - 1, 1 << 31, 1<<31 + 1, 1<<32 - 1}
	for p := range len(w) + 5 {
		to = append(to, p)
	}
	for _, a := range at {
		_, ptrs, _ := parts(w[a])
		for i := a + 1; i <= a+ptrs; i++ {
			for _, p := range to {
				turned := slices.Clone(w)
				turned[i] = uint32(p)
				check(t, "the pointer at "+strconv.Itoa(i)+" is "+strconv.Itoa(p), turned, roots, errUnless(slices.Contains(may, p)))
			}
		}
	}
	to = append(to, math.MinInt, math.MinInt32, -len(w), -2, -1, 1<<32, 1<<32+1, 1<<32+at[1], math.MaxInt-1, math.MaxInt)
	for i := range roots {
		for _, p := range to {
			turned := slices.Clone(roots)
			turned[i] = p
			check(t, "the root "+strconv.Itoa(i)+" is "+strconv.Itoa(p), w, turned, errUnless(slices.Contains(may, p)))
		}
	}
}

func errUnless(ok bool) api.Errno {
	if ok {
		return api.OK
	}
	return api.ErrForm
}

// Each count of roots about MaxRoots, of zeros and of places.
func TestCheckOfRoots(t *testing.T) {
	w := example()
	for n := range 40 {
		check(t, strconv.Itoa(n)+" roots 0", w, make([]int, n), errUnless(n <= rootsMost))
		check(t, strconv.Itoa(n)+" roots 4", w, slices.Repeat([]int{4}, n), errUnless(n <= rootsMost))
		check(t, "the word 0, with "+strconv.Itoa(n)+" roots 0", words(0), make([]int, n), errUnless(n <= rootsMost))
	}
	check(t, "a million roots", w, make([]int, 1000000), api.ErrForm)
	check(t, "sixteen roots with room behind", w, append(make([]int, rootsMost), 2, 2)[:rootsMost], api.OK)
}

// Heaps of MaxWords words, one less and one more: of small objects, and of great ones.
func TestCheckOfGreatHeaps(t *testing.T) {
	for n := wordsMost - 2; n <= wordsMost+2; n++ {
		what := strconv.Itoa(n) + " words"
		w := make([]uint32, n)
		for i := range w[1:] {
			w[1+i] = hd(1, 0, i%16)
		}
		last := []int{1, n - 1}
		check(t, what+" of small objects", w, last, errUnless(n <= wordsMost))
		w[n-1] = 0
		check(t, what+", the last is no head", w, nil, api.ErrForm)
		w = make([]uint32, n)
		w[1], w[3] = hd(2, 1, 0), hd(n-4, 255, 0)
		w[2], w[4], w[258] = uint32(n-1), 1, uint32(n-1)
		w[n-1] = hd(1, 0, 0)
		check(t, what+" of a great object", w, last, errUnless(n <= wordsMost))
		check(t, what+" of a great object, a root within it", w, []int{n - 2}, api.ErrForm)
		w[258] = uint32(n - 2)
		check(t, what+" of a great object, its last pointer goes into it", w, nil, api.ErrForm)
		w[258], w[259] = 0, uint32(n-2)
		check(t, what+" of a great object, a word behind its last pointer", w, nil, errUnless(n <= wordsMost))
	}
	w := make([]uint32, wordsMost)
	w[1] = hd(sizeMost, 0, 0)
	check(t, "one object of the greatest size", w, []int{1}, api.OK)
	check(t, "one object of the greatest size, a word less", w[:wordsMost-1], nil, api.ErrForm)
	check(t, "great words that are none", make([]uint32, 3*wordsMost), nil, api.ErrForm)
}

// Each word of a heap is lost from its end, or 0 is put behind it: no heap any more, unless an object ends there.
func TestCheckOfCutHeaps(t *testing.T) {
	c := chance(23)
	for range 300 {
		w, at := heapOf(&c, 1+c.next(6))
		for i, a := range at { // no pointers, so that a cut alone counts
			size, _, kind := parts(w[a])
			w[a] = hd(size, 0, kind)
			check(t, "a heap of no pointers", w, at[:i+1], api.OK)
		}
		for n := range w {
			check(t, "a heap that is cut", w[:n], nil, errUnless(n == 1 || slices.Contains(at, n)))
		}
		check(t, "a heap with a word 0 behind it", append(slices.Clone(w), 0), nil, api.ErrForm)
		check(t, "a heap with an object behind it", append(slices.Clone(w), hd(1, 0, 0)), nil, api.OK)
	}
}

// An object whose head says more pointers than there were: the words that become pointers count.
func TestCheckOfEachCountOfPointers(t *testing.T) {
	for n := range ptrsMost + 1 {
		w := make([]uint32, 1+256)
		for i := range w[2:] {
			w[2+i] = 1
		}
		w[1] = hd(256, n, 0)
		check(t, strconv.Itoa(n)+" pointers to itself", w, nil, api.OK)
		if n > 0 {
			w[1+n] = 2
			check(t, strconv.Itoa(n)+" pointers, the last one within itself", w, nil, api.ErrForm)
			w[1+n] = 1
		}
		if n < ptrsMost {
			w[2+n] = 2
			check(t, strconv.Itoa(n)+" pointers, the word behind them a place within", w, nil, api.OK)
		}
	}
}
