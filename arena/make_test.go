package arena_test

import (
	"math"
	"testing"

	"dunnage/api"
	"dunnage/arena"
)

// nowhere is places that no arena has.
func nowhere() []int {
	return []int{math.MinInt, math.MinInt + 1, math.MinInt32, -1 << 32, -4096, -16, -2, -1, wordsMost, wordsMost + 1, 1<<31 - 1, 1 << 31, 1 << 32, 1<<32 + 1, 1<<32 + 3, 1 << 52, math.MaxInt - 1, math.MaxInt}
}

// The chapter's example, step by step.
func TestExample(t *testing.T) {
	p := newPair(t, 16)
	if x, y := p.has(t, 1, nil, words(7)), p.has(t, 2, places(1), nil); x != 1 || y != 3 || p.a.Used() != 5 {
		t.Errorf("P16.2: the example: %d, %d, %d words used", x, y, p.a.Used())
	}
	if e := p.setRoot(t, 0, 3); e != api.OK {
		t.Errorf("P16.3: the example: SetRoot: error %d", e)
	}
	if at, e := p.make(t, 0, nil, make([]uint32, 12)); at != 0 || e != api.ErrFull {
		t.Errorf("P16.2: the example: Make without room: %d, error %d", at, e)
	}
	if n := p.pack(t); n != 0 {
		t.Errorf("P16.4: the example: Pack of what lives: %d", n)
	}
	if e := p.setRoot(t, 0, 1); e != api.OK {
		t.Errorf("P16.3: the example: SetRoot: error %d", e)
	}
	if n := p.pack(t); n != 2 || p.a.Used() != 3 {
		t.Errorf("P16.4: the example: Pack: %d, %d words used", n, p.a.Used())
	}
	p.same(t)
}

func TestNew(t *testing.T) {
	for _, n := range []int{wordsLeast, wordsLeast + 1, 17, 4096, 131072, wordsMost - 1, wordsMost} {
		p := newPair(t, n)
		if p.a.Words() != n || p.a.Used() != 1 || p.a.Live() != 0 || p.a.Pack() != 0 || p.a.Used() != 1 {
			t.Errorf("P16.1: New(%d): %d words, %d used, %d live", n, p.a.Words(), p.a.Used(), p.a.Live())
		}
		p.same(t)
		for slot := range rootsMost {
			if p.a.Root(slot) != 0 {
				t.Errorf("P16.1: New(%d): the root %d is %d", n, slot, p.a.Root(slot))
			}
		}
	}
	for _, n := range append(nowhere(), 0, 1, 8, wordsLeast-1, 2*wordsMost, 3*wordsMost) {
		a, e := arena.New(n)
		if want := n == wordsMost; want != (e == api.OK) || !want && (a != nil || e != api.ErrArg) {
			t.Errorf("P16.1: New(%d): %v, error %d", n, a, e)
		}
	}
}

// Each kind about those that may be, with each of some counts of pointers and words.
func TestMakeOfEachKind(t *testing.T) {
	p := newPair(t, 4096)
	for kind := -3; kind <= 2*kindMost+3; kind++ {
		for ptrs := range 3 {
			for more := range 3 {
				_, e := p.make(t, kind, make([]int, ptrs), make([]uint32, more))
				if bad := kind < 0 || kind > 15; bad != (e == api.ErrArg) {
					t.Errorf("P16.2: Make of the kind %d: error %d", kind, e)
				}
			}
		}
	}
	p.same(t)
	for _, kind := range []int{math.MinInt, math.MinInt32, -16, 255, 256, 1 << 32, 1<<32 + 1, math.MaxInt} {
		p.refuses(t, api.ErrArg, kind, nil, nil)
	}
}

// refuses: Make answers this error, no place, and nothing has changed.
func (p pair) refuses(t *testing.T, want api.Errno, kind int, ptrs []int, data []uint32) {
	t.Helper()
	at, e := p.make(t, kind, ptrs, data)
	if at != 0 || e != want {
		t.Fatalf("P16.2: Make(%d, %d pointers %v, %d words): %d, error %d; want error %d", kind, len(ptrs), shown(ptrs), len(data), at, e, want)
	}
	p.same(t)
}

// Each count of pointers up to the most, and more.
func TestMakeOfEachCount(t *testing.T) {
	p := newPair(t, wordsMost)
	at := 0
	for n := range ptrsMost + 1 {
		ptrs := make([]int, n)
		for i := range ptrs {
			ptrs[i] = []int{at, 0, 1}[i%3] * min(n/2, 1)
		}
		at = p.has(t, n%16, ptrs, words(uint32(n), 1<<32-1)[:n%3])
	}
	p.same(t)
	for _, n := range []int{ptrsMost + 1, ptrsMost + 2, 511, 512, 4096, 1 << 16, sizeMost, wordsMost} {
		p.refuses(t, api.ErrArg, 0, make([]int, n), nil)
	}
}

// pointed is an arena with objects of unlike sizes, at 1, 3 and 7, and 8 words that are used.
func pointed(t *testing.T, room int) pair {
	t.Helper()
	p := newPair(t, room)
	p.has(t, 1, nil, words(4096))
	p.has(t, 2, places(1, 0), words(8192))
	p.has(t, 3, nil, nil)
	return p
}

// Pointers are 0, or places of objects: not within one, not behind the end, not the place that the new one would have.
func TestMakeOfPointers(t *testing.T) {
	p := pointed(t, 4096)
	for _, to := range places(0, 1, 3, 7) {
		for _, ptrs := range [][]int{{to}, {to, to}, {0, to, 0}, {7, 3, to}} {
			q := p.fork()
			if at := q.has(t, 4, ptrs, words(5)); at != 8 {
				t.Errorf("P16.2: Make(4, %v, 5): %d; want 8", ptrs, at)
			}
			q.same(t)
		}
	}
	for _, to := range append(nowhere(), 2, 4, 5, 6, 8, 9, 10, 15, 4095, 4096) {
		for _, ptrs := range [][]int{{to}, {to, 1}, {1, to}, {0, 0, to}, {3, to, 7}} {
			p.refuses(t, api.ErrArg, 4, ptrs, words(5))
		}
	}
}

// One pointer that may not be, at each place among as many as may be.
func TestMakeOfOnePointerAmongMany(t *testing.T) {
	p := pointed(t, 4096)
	for n := 1; n <= ptrsMost; n += 1 + n/3 {
		for i := range n {
			ptrs := make([]int, n)
			for k := range ptrs {
				ptrs[k] = []int{1, 0, 3, 7}[k%4]
			}
			ptrs[i] = 2
			p.refuses(t, api.ErrArg, 4, ptrs, nil)
		}
	}
}

// For each room of some: objects that fill it to the last word, in one or in some, and one word more.
func TestMakeAsMuchAsThereIsRoomFor(t *testing.T) {
	for _, room := range []int{wordsLeast, 17, 18, 100, 255, 256, 257, 258, 4096} {
		for ahead := range 4 {
			for ptrs := range 4 {
				p := newPair(t, room)
				for range ahead {
					p.has(t, 5, nil, words(6, 7))
				}
				more := room - p.a.Used() - 1 - ptrs
				if more < 0 {
					continue
				}
				p.refuses(t, api.ErrFull, 0, make([]int, ptrs), make([]uint32, more+1))
				p.refuses(t, api.ErrFull, 0, make([]int, min(room, ptrsMost)), make([]uint32, room))
				p.has(t, 0, make([]int, ptrs), make([]uint32, more))
				if p.a.Used() != room {
					t.Errorf("P16.2: %d of %d words are used", p.a.Used(), room)
				}
				p.refuses(t, api.ErrFull, 0, nil, nil)
				p.refuses(t, api.ErrFull, 0, make([]int, ptrs), make([]uint32, more))
			}
		}
	}
}

// What has no room, and may not be, is refused with what is named first.
func TestMakeOfMoreThanOneFault(t *testing.T) {
	full := newPair(t, wordsLeast)
	full.has(t, 1, places(0), make([]uint32, 13))
	for _, p := range []pair{full, newPair(t, wordsLeast)} {
		for _, kind := range []int{-1, 16} {
			p.refuses(t, api.ErrArg, kind, nil, make([]uint32, 20))
			p.refuses(t, api.ErrArg, kind, places(99), make([]uint32, 20))
		}
		p.refuses(t, api.ErrArg, 0, make([]int, ptrsMost+1), make([]uint32, 20))
		p.refuses(t, api.ErrFull, 0, make([]int, ptrsMost), make([]uint32, 20))
		p.refuses(t, api.ErrArg, 0, places(2), make([]uint32, 20))
		p.refuses(t, api.ErrArg, 0, places(0, -1), make([]uint32, 20))
		p.refuses(t, api.ErrFull, 0, places(0, 0), make([]uint32, 20))
		p.refuses(t, api.ErrArg, 0, nil, make([]uint32, sizeMost))
		p.refuses(t, api.ErrFull, 0, nil, make([]uint32, sizeMost-1))
	}
}

// The size of an object in words, its head counted, is below 2^20; one of the greatest size fills the greatest arena.
func TestMakeOfTheGreatestSize(t *testing.T) {
	data := make([]uint32, 3*wordsMost)
	for i := range data {
		data[i] = uint32(i)
	}
	for _, ptrs := range []int{0, 1, 2, 254, ptrsMost} {
		p := newPair(t, wordsMost)
		for _, size := range []int{sizeMost + 1, sizeMost + 2, sizeMost + 1 + ptrs, 2 * wordsMost, 3 * wordsMost} {
			p.refuses(t, api.ErrArg, 1, make([]int, ptrs), data[:size-1-ptrs])
		}
		if at := p.has(t, 1, make([]int, ptrs), data[:sizeMost-1-ptrs]); at != 1 || p.a.Used() != wordsMost {
			t.Errorf("P16.2: Make of 2^20 - 1 words: %d, %d words used", at, p.a.Used())
		}
		p.counts(t)
		p.at(t, 1)
		if _, e := p.make(t, 1, nil, nil); e != api.ErrFull {
			t.Errorf("P16.2: Make in a full arena: error %d", e)
		}
		p.set(t, 1, sizeMost-2-ptrs, 7)
		p.set(t, 1, sizeMost-1-ptrs, 8)
		p.setRoot(t, 3, 1)
		if n := p.pack(t); n != 0 || p.a.Live() != sizeMost {
			t.Errorf("P16.4: Pack of 2^20 - 1 words: %d, %d live", n, p.a.Live())
		}
		p.setRoot(t, 3, 0)
		if n := p.pack(t); n != sizeMost || p.a.Used() != 1 {
			t.Errorf("P16.4: Pack of 2^20 - 1 words that are dead: %d, %d used", n, p.a.Used())
		}
	}
	p := newPair(t, wordsMost-1)
	_, e := p.make(t, 1, nil, data[:sizeMost-1])
	_, f := p.make(t, 1, nil, data[:sizeMost-2])
	if e != api.ErrFull || f != api.OK {
		t.Errorf("P16.2: Make of 2^20 - 1 words, and of one less, in 2^20 - 1: errors %d, %d", e, f)
	}
}
