package cells_test

import (
	"iter"
	"slices"
	"testing"

	"dunnage/api"
	"dunnage/cells"
)

// The document's numbers stand for themselves here: a turned constant is seen.
const (
	sizeMost  = 1048575
	ptrsMost  = 255
	kindMost  = 15
	wordsMost = 1048576
	rootsMost = 16
)

// chance is a row of numbers that looks like none, and is the same in each run.
type chance uint64

func (c *chance) next(n int) int {
	*c ^= *c << 13
	*c ^= *c >> 7
	*c ^= *c << 17
	return int(uint64(*c) >> 11 % uint64(n))
}

// word is any word.
func (c *chance) word() uint32 { return uint32(c.next(1 << 32)) }

// hd is the head of these numbers, by the chapter's sum; numbers that no Head has are summed alike.
func hd(size, ptrs, kind int) uint32 { return uint32(size*4096 + ptrs*16 + kind) }

func words(w ...uint32) []uint32 { return w }

// parts is what a word says, read as a head, from its binary digits.
func parts(h uint32) (size, ptrs, kind int) {
	for bit := 31; bit >= 0; bit-- {
		digit := int(h / (1 << bit) % 2)
		switch {
		case bit >= 12:
			size = 2*size + digit
		case bit >= 4:
			ptrs = 2*ptrs + digit
		default:
			kind = 2*kind + digit
		}
	}
	return size, ptrs, kind
}

// seen is one object that All tells.
type seen struct {
	at int
	h  uint32
}

// walked is what All is to tell of w.
func walked(w []uint32) []seen {
	var l []seen
	if len(w) == 0 {
		return nil
	}
	at, rest := 1, w[1:]
	for len(rest) > 0 {
		size, ptrs, _ := parts(rest[0])
		if size < ptrs+1 || size > len(rest) {
			return l
		}
		l = append(l, seen{at, rest[0]})
		at, rest = at+size, rest[size:]
	}
	return l
}

// found is what At is to answer.
func found(w []uint32, at int) (api.Object, api.Errno) {
	for _, x := range walked(w) {
		if x.at != at {
			continue
		}
		size, ptrs, kind := parts(x.h)
		o := api.Object{Kind: kind}
		for i := 1; i < size; i++ {
			if i <= ptrs {
				o.Ptrs = append(o.Ptrs, int(w[at+i]))
			} else {
				o.Data = append(o.Data, w[at+i])
			}
		}
		return o, api.OK
	}
	return api.Object{}, api.ErrNone
}

// checked is what Check is to answer.
func checked(w []uint32, roots []int) api.Errno {
	if len(w) < 1 || len(w) > wordsMost || w[0] != 0 || len(roots) > rootsMost {
		return api.ErrForm
	}
	may, goes, end := map[int]int{0: 1}, slices.Clone(roots), 1
	for _, x := range walked(w) {
		may[x.at] = 1
		size, ptrs, _ := parts(x.h)
		for _, p := range w[x.at+1:][:ptrs] {
			goes = append(goes, int(p))
		}
		end += size
	}
	for _, p := range goes {
		if may[p] == 0 {
			return api.ErrForm
		}
	}
	if end != len(w) {
		return api.ErrForm
	}
	return api.OK
}

func sameObject(a, b api.Object) bool {
	return a.Kind == b.Kind && slices.Equal(a.Ptrs, b.Ptrs) && slices.Equal(a.Data, b.Data)
}

// gathered is all that a sequence tells.
func gathered(all iter.Seq2[int, uint32]) []seen {
	var l []seen
	for at, h := range all {
		l = append(l, seen{at, h})
	}
	return l
}

// allOf is what All tells of w.
func allOf(t *testing.T, w []uint32) []seen {
	t.Helper()
	all := cells.All(w)
	if all == nil {
		t.Fatalf("R6: All of %d words is nil", len(w))
	}
	return gathered(all)
}

// heapOf is a heap of so many objects, by chance, all pointers of which are 0 or places of objects; and its objects' places.
func heapOf(c *chance, n int) ([]uint32, []int) {
	w, at := words(0), []int(nil)
	for range n {
		at = append(at, len(w))
		ptrs := c.next(4)
		size := 1 + ptrs + c.next(4)
		w = append(w, hd(size, ptrs, c.next(16)))
		for range size - 1 {
			w = append(w, c.word())
		}
	}
	for _, a := range at {
		_, ptrs, _ := parts(w[a])
		for i := range ptrs {
			w[a+1+i] = 0
			if k := c.next(n + 1); k < n {
				w[a+1+i] = uint32(at[k])
			}
		}
	}
	return w, at
}

// wordsOf is words that are often nearly a heap: small heads, words that are none, one that goes over the end.
func wordsOf(c *chance) []uint32 {
	w, _ := heapOf(c, c.next(6))
	for range c.next(3) {
		switch i := c.next(len(w) + 1); {
		case i == len(w):
			w = w[:c.next(len(w)+1)]
		case c.next(2) == 0:
			w[i] = hd(c.next(7), c.next(5), c.next(16))
		default:
			w[i] = c.word()
		}
		if len(w) == 0 {
			break
		}
	}
	return w
}

// shortWords tells all words lists of at most n words, each of these.
func shortWords(n int, of []uint32, tell func([]uint32)) {
	var more func(w []uint32)
	more = func(w []uint32) {
		tell(slices.Clone(w))
		if len(w) == n {
			return
		}
		for _, x := range of {
			more(append(slices.Clone(w), x))
		}
	}
	more(nil)
}

// example is the chapter's heap.
func example() []uint32 { return words(0, hd(3, 1, 2), 4, 9, hd(1, 0, 0)) }

// The model, held against the chapter's example.
func TestModel(t *testing.T) {
	if hd(3, 1, 2) != 12306 {
		t.Errorf("the model's head: %d", hd(3, 1, 2))
	}
	if size, ptrs, kind := parts(12306); size != 3 || ptrs != 1 || kind != 2 {
		t.Errorf("the model's parts: %d, %d, %d", size, ptrs, kind)
	}
	if l := walked(example()); !slices.Equal(l, []seen{{1, 12306}, {4, 4096}}) {
		t.Errorf("the model's objects: %v", l)
	}
	if o, e := found(example(), 1); e != api.OK || !sameObject(o, api.Object{Kind: 2, Ptrs: []int{4}, Data: words(9)}) {
		t.Errorf("the model's object: %v, error %d", o, e)
	}
	if checked(example(), []int{1, 4, 0}) != api.OK || checked(example(), []int{2}) != api.ErrForm {
		t.Error("the model's check")
	}
	c := chance(13)
	good, bad := 0, 0
	for range 1000 {
		w, at := heapOf(&c, c.next(9))
		if e := checked(w, nil); e != api.OK || len(walked(w)) != len(at) {
			t.Fatalf("the model's heap %v: error %d", w, e)
		}
		if checked(wordsOf(&c), nil) == api.OK {
			good++
		} else {
			bad++
		}
	}
	if good < 200 || bad < 200 {
		t.Errorf("the model's words: %d are heaps, %d are none", good, bad)
	}
}
