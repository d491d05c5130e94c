package thread_test

import (
	"slices"
	"testing"

	"dunnage/api"
	"dunnage/cells"
	"dunnage/mark"
	"dunnage/thread"
)

// The document's numbers stand for themselves here: a turned constant is seen.
const (
	sizeMost  = 1048575
	ptrsMost  = 255
	kindMost  = 15
	wordsMost = 1048576
	rootsMost = 16
)

// chance is a row of numbers that looks like none, and is the same in each run.
type chance uint64

func (c *chance) next(n int) int {
	*c ^= *c << 13
	*c ^= *c >> 7
	*c ^= *c << 17
	return int(uint64(*c) >> 11 % uint64(n))
}

// hd is the head of these numbers, by chapter 13's sum.
func hd(size, ptrs, kind int) uint32 { return uint32(size*4096 + ptrs*16 + kind) }

func words(w ...uint32) []uint32 { return w }

func places(l ...int) []int { return l }

// went is a list of From and To, in turn.
func went(l ...int) []api.Pos {
	var moved []api.Pos
	for i := 0; i+1 < len(l); i += 2 {
		moved = append(moved, api.Pos{From: l[i], To: l[i+1]})
	}
	return moved
}

// thing is one object of a heap, as the model knows it.
type thing struct {
	at   int
	head uint32
	to   []int    // whither it points
	rest []uint32 // its other words
}

func (x thing) size() int { return 1 + len(x.to) + len(x.rest) }

// things is the objects of w, up to the first word that is none's head; and whether they go up to the end.
func things(w []uint32) ([]thing, bool) {
	var l []thing
	at := 1
	for at < len(w) {
		size, ptrs := int(w[at]/4096), int(w[at]/16%256)
		if size < ptrs+1 || at+size > len(w) {
			return l, false
		}
		x := thing{at: at, head: w[at], rest: w[at+1+ptrs : at+size]}
		for _, p := range w[at+1 : at+1+ptrs] {
			x.to = append(x.to, int(p))
		}
		l, at = append(l, x), at+size
	}
	return l, true
}

// index is where in a list the thing of each place of a heap stands, from 1 on.
type index []int

func indexOf(l []thing, words int) index {
	m := make(index, words)
	for i, x := range l {
		m[x.at] = 1 + i
	}
	return m
}

// find is where in its list the thing of a place stands, and whether there is one.
func (m index) find(at int) (int, bool) {
	if at < 0 || at >= len(m) || m[at] == 0 {
		return 0, false
	}
	return m[at] - 1, true
}

// checked is what cells.Check is to answer.
func checked(w []uint32, roots []int) api.Errno {
	l, whole := things(w)
	if len(w) < 1 || len(w) > wordsMost || w[0] != 0 || !whole || len(roots) > rootsMost {
		return api.ErrForm
	}
	is, goes := indexOf(l, len(w)), slices.Clone(roots)
	for _, x := range l {
		goes = append(goes, x.to...)
	}
	for _, at := range goes {
		if _, ok := is.find(at); !ok && at != 0 {
			return api.ErrForm
		}
	}
	return api.OK
}

// living is the objects of w that live.
func living(w []uint32, roots []int) []thing {
	l, _ := things(w)
	is, lives := indexOf(l, len(w)), make([]bool, len(l))
	open := slices.Clone(roots)
	for k := 0; k < len(open); k++ {
		if i, ok := is.find(open[k]); ok && !lives[i] {
			lives[i] = true
			open = append(open, l[i].to...)
		}
	}
	var live []thing
	for i, x := range l {
		if lives[i] {
			live = append(live, x)
		}
	}
	return live
}

// answer is all that Compact answers.
type answer struct {
	w     []uint32
	roots []int
	moved []api.Pos
	e     api.Errno
}

// slid is what Compact is to answer: each object that lives is written behind the ones ahead of it, when all of them have their places.
func slid(w []uint32, roots []int) answer {
	if e := checked(w, roots); e != api.OK {
		return answer{e: e}
	}
	live, goes, end := living(w, roots), make([]int, len(w)), 1
	a := answer{w: words(0)}
	for _, x := range live {
		goes[x.at] = end
		a.moved = append(a.moved, api.Pos{From: x.at, To: end})
		end += x.size()
	}
	for _, x := range live {
		a.w = append(a.w, x.head)
		for _, p := range x.to {
			a.w = append(a.w, uint32(goes[p]))
		}
		a.w = append(a.w, x.rest...)
	}
	for _, at := range roots {
		a.roots = append(a.roots, goes[at])
	}
	return a
}

// compacted is what Compact answers.
func compacted(w []uint32, roots []int) answer {
	v, r, moved, e := thread.Compact(w, roots)
	return answer{v, r, moved, e}
}

func alike(a, b answer) bool {
	return a.e == b.e && slices.Equal(a.w, b.w) && slices.Equal(a.roots, b.roots) && slices.Equal(a.moved, b.moved)
}

// few is an answer, or what was asked, that may be shown.
func (a answer) few() answer {
	return answer{a.w[:min(len(a.w), 40)], a.roots, a.moved[:min(len(a.moved), 20)], a.e}
}

// tells holds Compact against what it is to answer.
func tells(t *testing.T, what string, w []uint32, roots []int, want answer) answer {
	t.Helper()
	got := compacted(w, roots)
	if !alike(got, want) {
		t.Fatalf("P15.1: Compact of %s, %v: %v; want %v", what, answer{w: w, roots: roots}.few(), got.few(), want.few())
	}
	return got
}

// same holds Compact against the model.
func same(t *testing.T, what string, w []uint32, roots []int) answer {
	t.Helper()
	return tells(t, what, w, roots, slid(w, roots))
}

// graph is a heap of objects that point to one another by their numbers, from 1 on (0: none); so many other words stand in each of them, which look like pointers; and the objects' places, by their numbers, with 0 for none.
func graph(more int, to ...[]int) ([]uint32, []int) {
	at, end := places(0), 1
	for _, l := range to {
		at, end = append(at, end), end+1+len(l)+more
	}
	w := words(0)
	for i, l := range to {
		w = append(w, hd(1+len(l)+more, len(l), i%16))
		for _, k := range l {
			w = append(w, uint32(at[k]))
		}
		for k := range more {
			w = append(w, uint32(at[1+(i+k)%len(to)]))
		}
	}
	return w, at
}

// heapOf is a heap of so many objects, by chance, all pointers of which are 0 or places of objects; of their other words some are places too, some heads, some anything; and its objects' places.
func heapOf(c *chance, n int) ([]uint32, []int) {
	w, at := words(0), []int(nil)
	var leads []int
	for range n {
		at = append(at, len(w))
		ptrs, more := c.next(4), c.next(3)
		w = append(w, hd(1+ptrs+more, ptrs, c.next(16)))
		for i := range ptrs + more {
			if i < ptrs || c.next(2) == 0 {
				leads = append(leads, len(w))
			}
			w = append(w, words(uint32(c.next(1<<32)), w[c.next(len(w))])[c.next(2)])
		}
	}
	for _, i := range leads {
		w[i] = uint32(append(at, 0)[c.next(n+1)])
	}
	return w, at
}

// rootsOf is some of these places, and 0, by chance.
func rootsOf(c *chance, at []int) []int {
	var l []int
	for range c.next(6) {
		l = append(l, append(at, 0)[c.next(len(at)+1)])
	}
	return l
}

// shortLists tells all lists of at most n of these.
func shortLists(n int, of []int, tell func([]int)) {
	var more func(l []int)
	more = func(l []int) {
		tell(slices.Clone(l))
		if len(l) == n {
			return
		}
		for _, x := range of {
			more(append(slices.Clone(l), x))
		}
	}
	more(nil)
}

// example is the chapter's heap; its root is 3.
func example() []uint32 {
	return words(0, hd(2, 0, 1), 7, hd(2, 1, 2), 5, hd(1, 0, 3))
}

// The model, held against the chapter's example, and against cells and mark.
func TestModel(t *testing.T) {
	want := answer{words(0, hd(2, 1, 2), 3, hd(1, 0, 3)), places(1), went(3, 1, 5, 3), api.OK}
	if a := slid(example(), places(3)); !alike(a, want) {
		t.Errorf("the model's example: %v", a)
	}
	c := chance(14)
	dead, all, bad := 0, 0, 0
	for range 2000 {
		w, at := heapOf(&c, c.next(9))
		roots := rootsOf(&c, at)
		if c.next(9) == 0 {
			roots = append(roots, c.next(30)-3)
		}
		a := slid(w, roots)
		live, e := mark.Live(w, roots)
		if a.e != cells.Check(w, roots) || a.e != e || len(a.moved) != len(live) {
			t.Fatalf("the model of %v, %v: %v", w, roots, a)
		}
		for i, p := range a.moved {
			if p.From != live[i] {
				t.Fatalf("the model of %v, %v: %v", w, roots, a)
			}
		}
		switch {
		case e != api.OK:
			bad++
		case len(live) < len(at):
			dead++
		default:
			all++
		}
	}
	if dead < 200 || all < 200 || bad < 50 {
		t.Errorf("the model's heaps: of %d all lives, of %d not, %d have a root that is none", all, dead, bad)
	}
	if w, at := graph(1, places(2, 0), places()); !slices.Equal(w, words(0, hd(4, 2, 0), 5, 0, 1, hd(2, 0, 1), 5)) || !slices.Equal(at, places(0, 1, 5)) {
		t.Errorf("the model's graph: %v, %v", w, at)
	}
}
