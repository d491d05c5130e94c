package cursor_test

import (
	"maps"
	"slices"
	"strconv"
	"strings"
	"testing"

	"dunnage/api"
	"dunnage/btree"
	"dunnage/cursor"
)

// The document's numbers stand for themselves here: a turned constant is seen.
const (
	rootsMost = 16
	keyMost   = 64
	wordsMost = 1048576
)

// chance is a row of numbers that looks like none, and is the same in each run.
type chance uint64

func (c *chance) next(n int) int {
	*c ^= *c << 13
	*c ^= *c >> 7
	*c ^= *c << 17
	return int(uint64(*c) >> 11 % uint64(n))
}

func (c *chance) of(l []string) string { return l[c.next(len(l))] }

// key is one of a row of short keys that rise.
func key(n int) string { return "k" + strconv.Itoa(1000000 + n)[1:] }

func ref(n int) api.Ref { return api.Ref{Serial: uint64(n) + 1, At: n % 1000, Len: n % 97} }

// top is the greatest key that may be.
func top() string { return strings.Repeat("\xff", keyMost) }

// texts is all texts of at most so many of these letters.
func texts(letters string, most int) []string {
	l := []string{""}
	for i := 0; i < len(l); i++ {
		if len(l[i]) < most {
			for j := range len(letters) {
				l = append(l, l[i]+letters[j:j+1])
			}
		}
	}
	return l
}

// odd is texts at the edges of what keys may be, and beyond.
func odd() []string {
	l := []string{"\x00", "\xff", top(), top()[1:], top() + "\x00", top() + "\xff", strings.Repeat("\x00", keyMost), strings.Repeat("\x00", keyMost+1)}
	for _, n := range []int{keyMost - 2, keyMost - 1, keyMost} {
		a := strings.Repeat("a", n)
		l = append(l, a, a+"\x00", a+"\xff", a[1:]+"b", a[1:]+"\x00", a[1:]+"\xff", a+"\x00\x00", strings.Repeat("\xff", n-1)+"\xfe")
	}
	return append(l, strings.Repeat("a", 5000), "a"+top(), "a"+top()[1:], "`"+top(), "`"+top()[1:], "b", "a\xff\xff", "b\x00")
}

// may: is it a key?
func may(text string) bool { return len(text) >= 1 && len(text) <= keyMost }

// table is a version of a model.
type table map[string]api.Ref

// model is what a forest plainly is: so many tables.
type model [rootsMost]table

func newModel() *model {
	m := &model{}
	for i := range m {
		m[i] = table{}
	}
	return m
}

// pair is a forest and its model, with which the same is done.
type pair struct {
	f *btree.Forest
	m *model
}

func newPair(t *testing.T, words int, l ...string) pair {
	t.Helper()
	f, e := btree.New(words)
	if e != api.OK {
		t.Fatalf("btree.New(%d): error %d", words, e)
	}
	p := pair{f, newModel()}
	for i, k := range l {
		p.put(t, 0, k, ref(i))
	}
	return p
}

func (p pair) put(t *testing.T, root int, k string, r api.Ref) {
	t.Helper()
	if e := p.f.Put(root, k, r); e != api.OK {
		t.Fatalf("btree's Put(%d, %q, %v): error %d", root, k, r, e)
	}
	p.m[root][k] = r
}

func (p pair) delete(t *testing.T, root int, k string) {
	t.Helper()
	_, want := p.m[root][k]
	if is, e := p.f.Delete(root, k); is != want || e != api.OK {
		t.Fatalf("btree's Delete(%d, %q): %v, error %d", root, k, is, e)
	}
	delete(p.m[root], k)
}

func (p pair) copy(t *testing.T, from, to int) {
	t.Helper()
	if e := p.f.Copy(from, to); e != api.OK {
		t.Fatalf("btree's Copy(%d, %d): error %d", from, to, e)
	}
	p.m[to] = maps.Clone(p.m[from])
}

func (p pair) drop(t *testing.T, root int) {
	t.Helper()
	if e := p.f.Drop(root); e != api.OK {
		t.Fatalf("btree's Drop(%d): error %d", root, e)
	}
	p.m[root] = table{}
}

func (p pair) patch(t *testing.T, m api.Move) {
	t.Helper()
	if e := p.f.Patch(m); e != api.OK {
		t.Fatalf("btree's Patch(%v): error %d", m, e)
	}
	for _, v := range p.m {
		for k, r := range v {
			if r.Serial == m.Serial && r.At == m.From {
				r.At = m.To
				v[k] = r
			}
		}
	}
}

// walk is a cursor and what it plainly is: a range, and the key at which it stands, if it stands (is).
type walk struct {
	pair
	c      *cursor.Cursor
	root   int
	lo, hi string
	key    string
	is     bool
}

func (p pair) walk(t *testing.T, root int, lo, hi string) *walk {
	t.Helper()
	c, e := cursor.New(p.f, root, lo, hi)
	if c == nil || e != api.OK {
		t.Fatalf("P18.1: New of version %d, from %.80q to %.80q: error %d", root, lo, hi, e)
	}
	w := &walk{pair: p, c: c, root: root, lo: lo, hi: hi}
	w.stands(t, "New")
	return w
}

// keys is the keys of the range as they are now, rising.
func (w *walk) keys() []string {
	var l []string
	for k := range w.m[w.root] {
		if k >= w.lo && (w.hi == "" || k < w.hi) {
			l = append(l, k)
		}
	}
	slices.Sort(l)
	return l
}

// least stands at the least key of the range that may be had.
func (w *walk) least(may func(k string) bool) bool {
	w.key, w.is = "", false
	for _, k := range w.keys() {
		if may(k) && !w.is {
			w.key, w.is = k, true
		}
	}
	return w.is
}

// most stands at the greatest key of the range that may be had.
func (w *walk) most(may func(k string) bool) bool {
	w.key, w.is = "", false
	for _, k := range w.keys() {
		if may(k) {
			w.key, w.is = k, true
		}
	}
	return w.is
}

func each(string) bool { return true }

// entry is what Entry has to answer.
func (w *walk) entry() (api.Entry, bool) {
	r, is := w.m[w.root][w.key]
	if !w.is || !is {
		return api.Entry{}, false
	}
	return api.Entry{Key: w.key, Ref: r}, true
}

// stands holds Entry against the model.
func (w *walk) stands(t *testing.T, what string) {
	t.Helper()
	want, is := w.entry()
	for range 2 {
		if e, got := w.c.Entry(); e != want || got != is {
			t.Fatalf("P18.2: behind %s, from %.80q to %.80q: Entry: %v, %v; want %v, %v", what, w.lo, w.hi, e, got, want, is)
		}
	}
}

// told holds what a step answered, and where it leads, against the model.
func (w *walk) told(t *testing.T, what string, got, want bool) bool {
	t.Helper()
	if got != want {
		t.Fatalf("P18.2: %s, from %.80q to %.80q: %v; want %v, at %.80q", what, w.lo, w.hi, got, want, w.key)
	}
	w.stands(t, what)
	return want
}

func (w *walk) first(t *testing.T) bool {
	t.Helper()
	return w.told(t, "First", w.c.First(), w.least(each))
}

func (w *walk) last(t *testing.T) bool {
	t.Helper()
	return w.told(t, "Last", w.c.Last(), w.most(each))
}

func (w *walk) seek(t *testing.T, text string) bool {
	t.Helper()
	want := w.least(func(k string) bool { return k >= text })
	return w.told(t, "Seek("+shown(text)+")", w.c.Seek(text), want)
}

// ahead does what Next does to the model alone.
func (w *walk) ahead() bool {
	is, from := w.is, w.key
	return w.least(func(k string) bool { return !is || k > from })
}

func (w *walk) next(t *testing.T) bool {
	t.Helper()
	from := w.key
	return w.told(t, "Next from "+shown(from), w.c.Next(), w.ahead())
}

func (w *walk) prev(t *testing.T) bool {
	t.Helper()
	is, from := w.is, w.key
	want := w.most(func(k string) bool { return !is || k < from })
	return w.told(t, "Prev from "+shown(from), w.c.Prev(), want)
}

// rest goes through Rest to its end.
func (w *walk) rest(t *testing.T) {
	t.Helper()
	for e := range w.c.Rest() {
		from := w.key
		want := w.ahead()
		if x, is := w.entry(); !want || !is || e != x {
			t.Fatalf("P18.3: Rest, from %s: %v; want %v, %v", shown(from), e, x, is)
		}
		w.stands(t, "an entry of Rest")
	}
	if w.ahead() {
		t.Fatalf("P18.3: Rest, from %.80q to %.80q, ends ahead of %s", w.lo, w.hi, shown(w.key))
	}
	w.stands(t, "Rest")
}

// shown is a text that may be told where a test fails.
func shown(text string) string { return strconv.Quote(text[:min(len(text), 80)]) }

// rising and falling go through the whole range both ways.
func (w *walk) rising(t *testing.T) {
	t.Helper()
	n := 0
	for is := w.first(t); is; is = w.next(t) {
		n++
	}
	if n != len(w.keys()) {
		t.Fatalf("what follows: First and Next tell %d of %d keys", n, len(w.keys()))
	}
}

func (w *walk) falling(t *testing.T) {
	t.Helper()
	n := 0
	for is := w.last(t); is; is = w.prev(t) {
		n++
	}
	if n != len(w.keys()) {
		t.Fatalf("what follows: Last and Prev tell %d of %d keys", n, len(w.keys()))
	}
}

// The model, held against the chapter's example, and words written out.
func TestModel(t *testing.T) {
	p := newPair(t, 4096, "a", "c", "e")
	w := &walk{pair: p, lo: "b"}
	at := func(want string, is bool) {
		t.Helper()
		if w.key != want || w.is != is {
			t.Errorf("the model's example: %q, %v; want %q, %v", w.key, w.is, want, is)
		}
	}
	w.least(each)
	at("c", true)
	w.least(func(k string) bool { return k > "c" })
	at("e", true)
	if e, is := w.entry(); e != (api.Entry{Key: "e", Ref: ref(2)}) || !is {
		t.Errorf("the model's entry: %v, %v", e, is)
	}
	delete(w.m[0], "e")
	if e, is := w.entry(); e != (api.Entry{}) || is {
		t.Errorf("the model's entry of a key that is gone: %v, %v", e, is)
	}
	w.most(each)
	at("c", true)
	w.most(func(k string) bool { return k < "c" })
	at("", false)
	w.hi = "c"
	if l := w.keys(); len(l) != 0 {
		t.Errorf("the model's keys: %q", l)
	}
	if l := texts("\x00ab\xff", 3); len(l) != 1+4+16+64 || !slices.Contains(l, "\xffa\x00") {
		t.Errorf("the model's texts: %q", l)
	}
	if len(top()) != keyMost || key(9) >= key(10) || may("") || !may(top()) || may(top()+"a") {
		t.Errorf("the model's keys: %q", key(9))
	}
}
