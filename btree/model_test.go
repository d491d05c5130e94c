package btree_test

import (
	"cmp"
	"maps"
	"math"
	"slices"
	"strconv"
	"strings"
	"testing"

	"dunnage/api"
	"dunnage/btree"
)

// The document's numbers stand for themselves here: a turned constant is seen.
const (
	rootsMost   = 16
	sectorsMost = 65536
	valueMost   = 4096
	keyMost     = 64
	wordsLeast  = 16
	wordsMost   = 1048576
)

// chance is a row of numbers that looks like none, and is the same in each run.
type chance uint64

func (c *chance) next(n int) int {
	*c ^= *c << 13
	*c ^= *c >> 7
	*c ^= *c << 17
	return int(uint64(*c) >> 11 % uint64(n))
}

// order is the numbers below n in an order by chance.
func (c *chance) order(n int) []int {
	l := make([]int, n)
	for i := range l {
		j := c.next(i + 1)
		l[i] = l[j]
		l[j] = i
	}
	return l
}

// key is one of a row of short keys that rise.
func key(n int) string { return "k" + strconv.Itoa(1000000 + n)[1:] }

// long is one of a row of keys of the greatest length, that differ at their ends.
func long(n int) string { return strings.Repeat("x", keyMost-7) + key(n) }

func ref(n int) api.Ref { return api.Ref{Serial: uint64(n) + 1, At: n % 1000, Len: n % 97} }

// anyRef is a ref such as may be, mostly at an edge.
func (c *chance) anyRef() api.Ref {
	serial := []uint64{1, 2, 3, 1<<32 - 1, 1 << 32, 1<<32 + 1, 1 << 63, math.MaxUint64, uint64(c.next(5)) + 1}
	at := []int{0, 1, 2, 65535, sectorsMost, c.next(5)}
	size := []int{0, 1, 4095, valueMost, c.next(5)}
	return api.Ref{Serial: serial[c.next(len(serial))], At: at[c.next(len(at))], Len: size[c.next(len(size))]}
}

// texts is all texts of at most so many letters, of bytes at the edges.
func texts(most int) []string {
	l := []string{""}
	for i := 0; i < len(l); i++ {
		if len(l[i]) < most {
			for _, b := range "\x00ab\u00ff" {
				l = append(l, l[i]+string([]byte{byte(b)}))
			}
		}
	}
	return l
}

// table is a version of a model.
type table map[string]api.Ref

func (v table) entries() []api.Entry {
	var l []api.Entry
	for _, k := range slices.Sorted(maps.Keys(v)) {
		l = append(l, api.Entry{Key: k, Ref: v[k]})
	}
	return l
}

// model is what a forest plainly is: so many tables.
type model [rootsMost]table

func newModel() *model {
	m := &model{}
	for i := range m {
		m[i] = table{}
	}
	return m
}

// version is a version's table, and an empty one of what is no version.
func (m *model) version(root int) table {
	if root < 0 || root >= rootsMost {
		return table{}
	}
	return m[root]
}

// count is the keys of all versions together.
func (m *model) count() int {
	n := 0
	for _, v := range m {
		n += len(v)
	}
	return n
}

func (m *model) patch(x api.Move) {
	for _, v := range m {
		for k, r := range v {
			if r.Serial == x.Serial && r.At == x.From {
				r.At = x.To
				v[k] = r
			}
		}
	}
}

func (m *model) refs() []api.Ref {
	all := map[api.Ref]int{}
	for _, v := range m {
		for _, r := range v {
			all[r]++
		}
	}
	return slices.SortedFunc(maps.Keys(all), func(a, b api.Ref) int {
		return cmp.Or(cmp.Compare(a.Serial, b.Serial), cmp.Compare(a.At, b.At), cmp.Compare(a.Len, b.Len))
	})
}

// pair is a forest and its model, with which the same is done.
type pair struct {
	f    *btree.Forest
	m    *model
	room int
}

func newPair(t *testing.T, words int) pair {
	t.Helper()
	f, e := btree.New(words)
	if f == nil || e != api.OK {
		t.Fatalf("P17.1: New(%d): error %d", words, e)
	}
	return pair{f, newModel(), words}
}

// promised: do Put and Delete have room, by the words of the chapter?
func (p pair) promised() bool { return (p.m.count()+1+16)*128 <= p.room }

// fits holds an error of a change that may be done against what may be answered.
func (p pair) fits(t *testing.T, what string, e api.Errno) bool {
	t.Helper()
	if e == api.ErrFull && p.promised() {
		t.Fatalf("P17.4: %s: ErrFull, with %d keys in %d words", what, p.m.count(), p.room)
	}
	if e != api.OK && e != api.ErrFull {
		t.Fatalf("P17.1: %s: error %d", what, e)
	}
	return e == api.OK
}

// tryPut puts what may be put, if there is room: was there?
func (p pair) tryPut(t *testing.T, root int, k string, r api.Ref) bool {
	t.Helper()
	if !p.fits(t, "Put", p.f.Put(root, k, r)) {
		return false
	}
	p.m[root][k] = r
	return true
}

func (p pair) put(t *testing.T, root int, k string, r api.Ref) {
	t.Helper()
	if !p.tryPut(t, root, k, r) {
		t.Fatalf("P17.1: Put(%d, %q, %v): no room", root, k, r)
	}
}

// tryDelete deletes a key, if there is room: was there?
func (p pair) tryDelete(t *testing.T, root int, k string) bool {
	t.Helper()
	_, want := p.m[root][k]
	is, e := p.f.Delete(root, k)
	if !p.fits(t, "Delete", e) {
		if is || !want {
			t.Fatalf("P17.1: Delete(%d, %q): %v, beside ErrFull; it was there: %v", root, k, is, want)
		}
		return false
	}
	if is != want {
		t.Fatalf("P17.1: Delete(%d, %q): %v; want %v", root, k, is, want)
	}
	delete(p.m[root], k)
	return true
}

func (p pair) delete(t *testing.T, root int, k string) {
	t.Helper()
	if !p.tryDelete(t, root, k) {
		t.Fatalf("P17.1: Delete(%d, %q): no room", root, k)
	}
}

func (p pair) copy(t *testing.T, from, to int) {
	t.Helper()
	if e := p.f.Copy(from, to); e != api.OK {
		t.Fatalf("P17.2: Copy(%d, %d): error %d", from, to, e)
	}
	p.m[to] = maps.Clone(p.m[from])
}

func (p pair) drop(t *testing.T, root int) {
	t.Helper()
	if e := p.f.Drop(root); e != api.OK {
		t.Fatalf("P17.2: Drop(%d): error %d", root, e)
	}
	p.m[root] = table{}
}

func (p pair) patch(t *testing.T, m api.Move) {
	t.Helper()
	if e := p.f.Patch(m); e != api.OK {
		t.Fatalf("P17.3: Patch(%v): error %d", m, e)
	}
	p.m.patch(m)
}

func (p pair) pack(t *testing.T) int {
	t.Helper()
	used := p.f.Used()
	n := p.f.Pack()
	if n < 0 || p.f.Used() != used-n {
		t.Fatalf("P17.3: Pack: %d; %d words were used, then %d", n, used, p.f.Used())
	}
	return n
}

// told is all that a version's All tells.
func told(f *btree.Forest, root int) []api.Entry {
	var l []api.Entry
	for k, r := range f.All(root) {
		l = append(l, api.Entry{Key: k, Ref: r})
	}
	return l
}

// shown is a list that may be told where a test fails.
func shown[T any](l []T) []T { return l[:min(len(l), 12)] }

// sees holds what a version answers of a text against its entries.
func (p pair) sees(t *testing.T, root int, l []api.Entry, text string) {
	t.Helper()
	var above, below api.Entry
	var isAbove, isBelow bool
	for _, x := range l {
		if x.Key <= text {
			below, isBelow = x, true
		}
		if x.Key >= text && !isAbove {
			above, isAbove = x, true
		}
	}
	if k, r, is := p.f.Seek(root, text); k != above.Key || r != above.Ref || is != isAbove {
		t.Fatalf("P17.2: Seek(%d, %q): %q, %v, %v; want %v, %v", root, text, k, r, is, above, isAbove)
	}
	if k, r, is := p.f.Back(root, text); k != below.Key || r != below.Ref || is != isBelow {
		t.Fatalf("P17.2: Back(%d, %q): %q, %v, %v; want %v, %v", root, text, k, r, is, below, isBelow)
	}
	want, has := p.m.version(root)[text]
	if r, is := p.f.Get(root, text); r != want || is != has {
		t.Fatalf("P17.2: Get(%d, %q): %v, %v; want %v, %v", root, text, r, is, want, has)
	}
}

// list holds Len and All of a version against its model, and is its entries.
func (p pair) list(t *testing.T, root int) []api.Entry {
	t.Helper()
	l := p.m.version(root).entries()
	if n := p.f.Len(root); n != len(l) {
		t.Fatalf("P17.2: Len(%d): %d; want %d", root, n, len(l))
	}
	if got := told(p.f, root); !slices.Equal(got, l) {
		t.Fatalf("P17.2: All(%d): %d: %v; want %d: %v", root, len(got), shown(got), len(l), shown(l))
	}
	return l
}

// same holds all that can be seen of a forest against its model.
func (p pair) same(t *testing.T) {
	t.Helper()
	for root := -1; root <= rootsMost; root++ {
		l := p.list(t, root)
		p.sees(t, root, l, "")
		p.sees(t, root, l, strings.Repeat("\xff", keyMost+1))
		for _, x := range l {
			p.sees(t, root, l, x.Key)
			p.sees(t, root, l, x.Key+"\x00")
			p.sees(t, root, l, x.Key[:len(x.Key)-1])
		}
	}
	if got, want := p.f.Refs(), p.m.refs(); !slices.Equal(got, want) {
		t.Fatalf("P17.3: Refs: %d: %v; want %d: %v", len(got), shown(got), len(want), shown(want))
	}
	if n := p.f.Used(); n < 1 || n > p.room {
		t.Fatalf("P17.3: Used: %d of %d words", n, p.room)
	}
}

// The model, held against the chapter's example, and words written out.
func TestModel(t *testing.T) {
	m := newModel()
	m[0]["a"] = api.Ref{Serial: 1, Len: 5}
	m[1] = maps.Clone(m[0])
	m[0]["a"] = api.Ref{Serial: 2, At: 1, Len: 5}
	m[0]["\xff"] = api.Ref{Serial: 1, Len: 4}
	m[0]["B"] = api.Ref{Serial: 1, At: 9, Len: 5}
	m.patch(api.Move{Serial: 1, From: 0, To: 9})
	if m[1]["a"] != (api.Ref{Serial: 1, At: 9, Len: 5}) || m.count() != 4 || len(m.version(16)) != 0 || len(m.version(-1)) != 0 {
		t.Errorf("the model's example: %v", m)
	}
	if l := m.refs(); !slices.Equal(l, []api.Ref{{Serial: 1, At: 9, Len: 4}, {Serial: 1, At: 9, Len: 5}, {Serial: 2, At: 1, Len: 5}}) {
		t.Errorf("the model's refs: %v", l)
	}
	if l := m[0].entries(); len(l) != 3 || l[0].Key != "B" || l[1].Key != "a" || l[2].Key != "\xff" {
		t.Errorf("the model's entries: %v", l)
	}
	if l := texts(3); len(l) != 1+4+16+64 || !slices.Contains(l, "\xffa\x00") {
		t.Errorf("the model's texts: %q", l)
	}
	c := chance(1)
	if l := slices.Sorted(slices.Values(c.order(50))); l[0] != 0 || l[49] != 49 || len(slices.Compact(l)) != 50 {
		t.Errorf("the model's order: %v", l)
	}
	if len(long(7)) != keyMost || long(7) >= long(8) || key(9) >= key(10) {
		t.Errorf("the model's keys: %q, %q", long(7), key(9))
	}
}
