package arena_test

import (
	"slices"
	"testing"

	"dunnage/api"
	"dunnage/arena"
)

// The document's numbers stand for themselves here: a turned constant is seen.
const (
	sizeMost   = 1048575
	ptrsMost   = 255
	kindMost   = 15
	wordsLeast = 16
	wordsMost  = 1048576
	rootsMost  = 16
)

// chance is a row of numbers that looks like none, and is the same in each run.
type chance uint64

func (c *chance) next(n int) int {
	*c ^= *c << 13
	*c ^= *c >> 7
	*c ^= *c << 17
	return int(uint64(*c) >> 11 % uint64(n))
}

func words(w ...uint32) []uint32 { return w }

func places(l ...int) []int { return l }

// thing is an object of a model, and its place.
type thing struct {
	at int
	o  api.Object
}

func (x thing) size() int { return 1 + len(x.o.Ptrs) + len(x.o.Data) }

func (x thing) clone() thing {
	return thing{x.at, api.Object{Kind: x.o.Kind, Ptrs: slices.Clone(x.o.Ptrs), Data: slices.Clone(x.o.Data)}}
}

func sameThing(a, b thing) bool { return a.at == b.at && sameObject(a.o, b.o) }

func sameObject(a, b api.Object) bool {
	return a.Kind == b.Kind && slices.Equal(a.Ptrs, b.Ptrs) && slices.Equal(a.Data, b.Data)
}

// model is what an arena plainly is: things in a row, and roots.
type model struct {
	room  int
	l     []thing
	roots [rootsMost]int
}

func (m *model) used() int {
	n := 1
	for _, x := range m.l {
		n += x.size()
	}
	return n
}

// find is the thing of a place, or nil.
func (m *model) find(at int) *thing {
	i, ok := slices.BinarySearchFunc(m.l, at, func(x thing, at int) int { return x.at - min(max(at, 0), wordsMost) })
	if !ok || at < 1 || at > wordsMost {
		return nil
	}
	return &m.l[i]
}

func (m *model) make(kind int, ptrs []int, data []uint32) (int, api.Errno) {
	x := thing{m.used(), api.Object{Kind: kind, Ptrs: ptrs, Data: data}}.clone()
	if kind < 0 || kind > kindMost || len(ptrs) > ptrsMost || x.size() > sizeMost {
		return 0, api.ErrArg
	}
	for _, to := range ptrs {
		if to != 0 && m.find(to) == nil {
			return 0, api.ErrArg
		}
	}
	if x.at+x.size() > m.room {
		return 0, api.ErrFull
	}
	m.l = append(m.l, x)
	return x.at, api.OK
}

func (m *model) set(at, i int, v uint32) api.Errno {
	x := m.find(at)
	if x == nil {
		return api.ErrNone
	}
	if i < 0 || i >= len(x.o.Data) {
		return api.ErrArg
	}
	x.o.Data[i] = v
	return api.OK
}

func (m *model) setRoot(slot, at int) api.Errno {
	if slot < 0 || slot >= rootsMost || at != 0 && m.find(at) == nil {
		return api.ErrArg
	}
	m.roots[slot] = at
	return api.OK
}

func (m *model) root(slot int) int {
	if slot < 0 || slot >= rootsMost {
		return 0
	}
	return m.roots[slot]
}

// living is the things that live, in order.
func (m *model) living() []thing {
	open, lives := slices.Clone(m.roots[:]), map[int]bool{0: true}
	for k := 0; k < len(open); k++ {
		if at := open[k]; !lives[at] {
			lives[at] = true
			open = append(open, m.find(at).o.Ptrs...)
		}
	}
	return slices.DeleteFunc(slices.Clone(m.l), func(x thing) bool { return !lives[x.at] })
}

func (m *model) live() int {
	n := 0
	for _, x := range m.living() {
		n += x.size()
	}
	return n
}

// pack writes the things that live anew, when all of them have their places.
func (m *model) pack() int {
	was, goes, end := m.used(), map[int]int{}, 1
	var l []thing
	for _, x := range m.living() {
		goes[x.at] = end
		l = append(l, thing{end, x.clone().o})
		end += x.size()
	}
	for _, x := range l {
		for i, to := range x.o.Ptrs {
			x.o.Ptrs[i] = goes[to]
		}
	}
	for i, at := range m.roots {
		m.roots[i] = goes[at]
	}
	m.l = l
	return was - end
}

func (m *model) clone() *model {
	f := &model{room: m.room, roots: m.roots}
	for _, x := range m.l {
		f.l = append(f.l, x.clone())
	}
	return f
}

// pair is an arena and its model, with which the same is done.
type pair struct {
	a *arena.Arena
	m *model
}

func newPair(t *testing.T, room int) pair {
	t.Helper()
	a, e := arena.New(room)
	if a == nil || e != api.OK {
		t.Fatalf("P16.1: New(%d): error %d", room, e)
	}
	return pair{a, &model{room: room}}
}

// shown is a list that may be told where a test fails.
func shown[T any](l []T) []T { return l[:min(len(l), 20)] }

func (p pair) make(t *testing.T, kind int, ptrs []int, data []uint32) (int, api.Errno) {
	t.Helper()
	at, e := p.a.Make(kind, ptrs, data)
	if want, err := p.m.make(kind, ptrs, data); at != want || e != err {
		t.Fatalf("P16.2: Make(%d, %d pointers %v, %d words %v): %d, error %d; want %d, error %d", kind, len(ptrs), shown(ptrs), len(data), shown(data), at, e, want, err)
	}
	return at, e
}

// has makes an object, which has to be given room.
func (p pair) has(t *testing.T, kind int, ptrs []int, data []uint32) int {
	t.Helper()
	at, e := p.make(t, kind, ptrs, data)
	if e != api.OK {
		t.Fatalf("P16.2: Make(%d, %v, %v): error %d", kind, shown(ptrs), shown(data), e)
	}
	return at
}

func (p pair) at(t *testing.T, at int) {
	t.Helper()
	o, e := p.a.At(at)
	x := p.m.find(at)
	switch {
	case x == nil && (e != api.ErrNone || o.Kind != 0 || o.Ptrs != nil || o.Data != nil):
		t.Fatalf("P16.2: At(%d): %v, error %d; want ErrNone", at, o, e)
	case x != nil && (e != api.OK || !sameObject(o, x.o)):
		t.Fatalf("P16.2: At(%d): error %d, kind %d, %d pointers, %d words; want kind %d, %d, %d", at, e, o.Kind, len(o.Ptrs), len(o.Data), x.o.Kind, len(x.o.Ptrs), len(x.o.Data))
	}
}

func (p pair) set(t *testing.T, at, i int, v uint32) api.Errno {
	t.Helper()
	e := p.a.Set(at, i, v)
	if want := p.m.set(at, i, v); e != want {
		t.Fatalf("P16.2: Set(%d, %d, %d): error %d; want %d", at, i, v, e, want)
	}
	return e
}

func (p pair) setRoot(t *testing.T, slot, at int) api.Errno {
	t.Helper()
	e := p.a.SetRoot(slot, at)
	if want := p.m.setRoot(slot, at); e != want {
		t.Fatalf("P16.3: SetRoot(%d, %d): error %d; want %d", slot, at, e, want)
	}
	return e
}

func (p pair) pack(t *testing.T) int {
	t.Helper()
	n := p.a.Pack()
	if want := p.m.pack(); n != want {
		t.Fatalf("P16.4: Pack: %d; want %d", n, want)
	}
	return n
}

func (p pair) fork() pair { return pair{p.a.Fork(), p.m.clone()} }

// told is all that an arena's All tells.
func told(a *arena.Arena) []thing {
	var l []thing
	for at, o := range a.All() {
		l = append(l, thing{at, o})
	}
	return l
}

// counts holds what an arena tells of itself in numbers against its model.
func (p pair) counts(t *testing.T) {
	t.Helper()
	if p.a.Words() != p.m.room || p.a.Used() != p.m.used() || p.a.Live() != p.m.live() {
		t.Fatalf("P16.1, P16.3: %d of %d words are used, %d live; want %d of %d, %d", p.a.Used(), p.a.Words(), p.a.Live(), p.m.used(), p.m.room, p.m.live())
	}
	for slot := -2; slot < rootsMost+2; slot++ {
		if at, want := p.a.Root(slot), p.m.root(slot); at != want {
			t.Fatalf("P16.3: Root(%d): %d; want %d", slot, at, want)
		}
	}
}

// same holds all that can be seen of an arena against its model.
func (p pair) same(t *testing.T) {
	t.Helper()
	p.counts(t)
	if l := told(p.a); !slices.EqualFunc(l, p.m.l, sameThing) {
		t.Fatalf("P16.4: All: %v; want %v", shown(l), shown(p.m.l))
	}
	for at := -2; at < p.m.used()+3; at++ {
		p.at(t, at)
	}
}

// any is a place that an object of the model has, mostly: else 0, or any number near it.
func (p pair) any(c *chance) int {
	if n := len(p.m.l); n > 0 && c.next(20) > 0 {
		return p.m.l[c.next(n)].at
	}
	return c.next(2) * (c.next(p.m.used()+6) - 3)
}

func (p pair) anyOf(c *chance, n int) []int {
	var l []int
	for range n {
		l = append(l, p.any(c)*min(c.next(4), 1))
	}
	return l
}

// some is words by chance, of which some look like heads, or like places.
func (c *chance) some(n int) []uint32 {
	var l []uint32
	for range n {
		l = append(l, []uint32{uint32(c.next(1 << 32)), uint32(c.next(20)), uint32(c.next(5)*4096 + c.next(64)), 1<<32 - 1}[c.next(4)])
	}
	return l
}

// The model, held against the chapter's example.
func TestModel(t *testing.T) {
	m := &model{room: 16}
	x, e := m.make(1, nil, words(7))
	y, f := m.make(2, places(1), nil)
	if x != 1 || y != 3 || e != api.OK || f != api.OK || m.used() != 5 || m.setRoot(0, 3) != api.OK || m.live() != 4 {
		t.Errorf("the model's example: %+v", m)
	}
	if _, e := m.make(0, nil, make([]uint32, 12)); e != api.ErrFull || m.pack() != 0 || m.used() != 5 {
		t.Errorf("the model's example: error %d, %+v", e, m)
	}
	f2 := m.clone()
	if m.setRoot(0, 1) != api.OK || m.pack() != 2 || m.used() != 3 || m.root(0) != 1 || f2.root(0) != 3 || f2.used() != 5 {
		t.Errorf("the model's example, packed: %+v", m)
	}
	if m.set(1, 0, 9) != api.OK || m.set(1, 1, 9) != api.ErrArg || m.set(3, 0, 9) != api.ErrNone || !sameThing(m.l[0], thing{1, api.Object{Kind: 1, Data: words(9)}}) {
		t.Errorf("the model's example, set: %+v", m)
	}
	if f2.setRoot(0, 0) != api.OK || f2.setRoot(3, 3) != api.OK || f2.pack() != 0 || f2.setRoot(3, 0) != api.OK || f2.pack() != 4 || f2.used() != 1 {
		t.Errorf("the model's fork: %+v", f2)
	}
	if _, e := m.make(0, places(0, 2), nil); e != api.ErrArg || m.find(-1) != nil || m.find(0) != nil || m.find(1<<62) != nil {
		t.Errorf("the model finds what is none: error %d, %+v", e, m)
	}
}
