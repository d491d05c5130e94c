package mark_test

import (
	"slices"
	"testing"

	"dunnage/api"
	"dunnage/cells"
	"dunnage/mark"
)

// The document's numbers stand for themselves here: a turned constant is seen.
const (
	sizeMost  = 1048575
	ptrsMost  = 255
	wordsMost = 1048576
	rootsMost = 16
)

// chance is a row of numbers that looks like none, and is the same in each run.
type chance uint64

func (c *chance) next(n int) int {
	*c ^= *c << 13
	*c ^= *c >> 7
	*c ^= *c << 17
	return int(uint64(*c) >> 11 % uint64(n))
}

// hd is the head of these numbers, by chapter 13's sum.
func hd(size, ptrs, kind int) uint32 { return uint32(size*4096 + ptrs*16 + kind) }

func words(w ...uint32) []uint32 { return w }

func places(l ...int) []int { return l }

// thing is one object of a heap, as the model knows it.
type thing struct {
	at, size int
	to       []int
}

// things is the objects of w, up to the first word that is none's head; and whether they go up to the end.
func things(w []uint32) ([]thing, bool) {
	var l []thing
	at := 1
	for at < len(w) {
		size, ptrs := int(w[at]/4096), int(w[at]/16%256)
		if size < ptrs+1 || at+size > len(w) {
			return l, false
		}
		x := thing{at: at, size: size}
		for _, p := range w[at+1 : at+1+ptrs] {
			x.to = append(x.to, int(p))
		}
		l, at = append(l, x), at+size
	}
	return l, true
}

// isPlace: does one of them stand there?
func isPlace(l []thing, at int) bool {
	return slices.ContainsFunc(l, func(x thing) bool { return x.at == at })
}

// checked is what cells.Check is to answer.
func checked(w []uint32, roots []int) api.Errno {
	l, whole := things(w)
	if len(w) < 1 || len(w) > wordsMost || w[0] != 0 || !whole || len(roots) > rootsMost {
		return api.ErrForm
	}
	goes := slices.Clone(roots)
	for _, x := range l {
		goes = append(goes, x.to...)
	}
	for _, at := range goes {
		if at != 0 && !isPlace(l, at) {
			return api.ErrForm
		}
	}
	return api.OK
}

// living is the objects of w that live: the chapter's sentence, said of each object again, until it says nothing new.
func living(w []uint32, roots []int) []thing {
	l, _ := things(w)
	lives := make([]bool, len(l))
	for more := true; more; {
		more = false
		for i, x := range l {
			if lives[i] {
				continue
			}
			lives[i] = slices.Contains(roots, x.at)
			for k, y := range l {
				lives[i] = lives[i] || lives[k] && slices.Contains(y.to, x.at)
			}
			more = more || lives[i]
		}
	}
	var live []thing
	for i, x := range l {
		if lives[i] {
			live = append(live, x)
		}
	}
	return live
}

// liveOf is what Live is to answer, and Words.
func liveOf(w []uint32, roots []int) (at []int, sum int, e api.Errno) {
	if e := checked(w, roots); e != api.OK {
		return nil, 0, e
	}
	for _, x := range living(w, roots) {
		at, sum = append(at, x.at), sum+x.size
	}
	return at, sum, api.OK
}

// reached is what Reaches is to answer.
func reached(w []uint32, from, to int) (bool, api.Errno) {
	if e := checked(w, nil); e != api.OK {
		return false, e
	}
	if l, _ := things(w); !isPlace(l, from) || !isPlace(l, to) {
		return false, api.ErrNone
	}
	return isPlace(living(w, []int{from}), to), api.OK
}

// tells holds Live and Words against what they are to answer.
func tells(t *testing.T, what string, w []uint32, roots, at []int, sum int, e api.Errno) {
	t.Helper()
	got, err := mark.Live(w, roots)
	if err != e || !slices.Equal(got, at) || e != api.OK && got != nil {
		t.Fatalf("P14.1: Live of %s by %v: %v, error %d; want %v, error %d", what, roots, few(got), err, few(at), e)
	}
	n, err := mark.Words(w, roots)
	if err != e || n != sum {
		t.Fatalf("P14.1: Words of %s by %v: %d, error %d; want %d, error %d", what, roots, n, err, sum, e)
	}
}

// few is a list that may be shown.
func few(l []int) []int { return l[:min(len(l), 50)] }

// same holds Live and Words against the model.
func same(t *testing.T, what string, w []uint32, roots []int) {
	t.Helper()
	at, sum, e := liveOf(w, roots)
	tells(t, what, w, roots, at, sum, e)
}

// sameWay holds Reaches against the model.
func sameWay(t *testing.T, what string, w []uint32, from, to int) {
	t.Helper()
	is, e := mark.Reaches(w, from, to)
	if want, err := reached(w, from, to); is != want || e != err {
		t.Fatalf("P14.2: Reaches of %s from %d to %d: %v, error %d; want %v, error %d", what, from, to, is, e, want, err)
	}
}

// graph is a heap of objects that point to one another by their numbers, from 1 on (0: none); so many other words stand in each of them; and the objects' places, by their numbers, with 0 for none.
func graph(more int, to ...[]int) ([]uint32, []int) {
	at, end := places(0), 1
	for _, l := range to {
		at, end = append(at, end), end+1+len(l)+more
	}
	w := words(0)
	for i, l := range to {
		w = append(w, hd(1+len(l)+more, len(l), i%16))
		for _, k := range l {
			w = append(w, uint32(at[k]))
		}
		for k := range more { // words that would be pointers, if they were among them
			w = append(w, uint32(at[1+(i+k)%len(to)]))
		}
	}
	return w, at
}

// heapOf is a heap of so many objects, by chance, all pointers of which are 0 or places of objects, and so are many of their other words; and its objects' places.
func heapOf(c *chance, n int) ([]uint32, []int) {
	w, at := words(0), []int(nil)
	var leads []int
	for range n {
		at = append(at, len(w))
		ptrs, more := c.next(3), c.next(3)
		w = append(w, hd(1+ptrs+more, ptrs, c.next(16)))
		for i := range ptrs + more {
			if leads = append(leads, len(w)); i >= ptrs && c.next(2) == 0 {
				leads = leads[:len(leads)-1]
			}
			w = append(w, uint32(c.next(1<<32)))
		}
	}
	for _, i := range leads {
		w[i] = uint32(append(at, 0)[c.next(n+1)])
	}
	return w, at
}

// rootsOf is roots by chance: most of them are places of objects.
func rootsOf(c *chance, at []int) []int {
	var l []int
	for range c.next(5) {
		switch {
		case len(at) > 0 && c.next(8) > 0:
			l = append(l, at[c.next(len(at))])
		case c.next(4) == 0:
			l = append(l, c.next(30)-3)
		default:
			l = append(l, 0)
		}
	}
	return l
}

// shortLists tells all lists of at most n of these.
func shortLists(n int, of []int, tell func([]int)) {
	var more func(l []int)
	more = func(l []int) {
		tell(slices.Clone(l))
		if len(l) == n {
			return
		}
		for _, x := range of {
			more(append(slices.Clone(l), x))
		}
	}
	more(nil)
}

// example is chapter 13's heap.
func example() []uint32 { return words(0, hd(3, 1, 2), 4, 9, hd(1, 0, 0)) }

// The model, held against the chapter's example, and against cells.
func TestModel(t *testing.T) {
	for _, r := range []struct {
		roots, at []int
		sum       int
	}{{places(1), places(1, 4), 4}, {places(4), places(4), 1}, {nil, nil, 0}} {
		if at, sum, e := liveOf(example(), r.roots); e != api.OK || !slices.Equal(at, r.at) || sum != r.sum {
			t.Errorf("the model, by %v: %v, %d, error %d", r.roots, at, sum, e)
		}
	}
	if is, e := reached(example(), 1, 4); !is || e != api.OK {
		t.Errorf("the model's way from 1 to 4: %v, error %d", is, e)
	}
	if is, e := reached(example(), 4, 1); is || e != api.OK {
		t.Errorf("the model's way from 4 to 1: %v, error %d", is, e)
	}
	c := chance(14)
	dead, good, bad := 0, 0, 0
	for range 2000 {
		w, at := heapOf(&c, c.next(9))
		roots := rootsOf(&c, at)
		if e := checked(w, nil); e != api.OK || cells.Check(w, nil) != e {
			t.Fatalf("the model's heap %v: error %d", w, e)
		}
		if e := checked(w, roots); e != cells.Check(w, roots) {
			t.Fatalf("the model's roots %v of %v: error %d", roots, w, e)
		}
		live, _, e := liveOf(w, roots)
		switch {
		case e != api.OK:
			bad++
		case len(live) < len(at):
			dead++
		default:
			good++
		}
	}
	if dead < 200 || good < 200 || bad < 50 {
		t.Errorf("the model's heaps: of %d all lives, of %d not, %d have roots that are none", good, dead, bad)
	}
	if w, at := graph(1, places(2, 0), places()); !slices.Equal(w, words(0, hd(4, 2, 0), 5, 0, 1, hd(2, 0, 1), 5)) || !slices.Equal(at, places(0, 1, 5)) {
		t.Errorf("the model's graph: %v, %v", w, at)
	}
}
