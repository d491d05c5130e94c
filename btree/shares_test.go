package btree_test

import (
	"slices"
	"strings"
	"sync"
	"testing"

	"dunnage/api"
)

// R3: who writes into what Refs answers, or into the room behind it, changes neither the forest nor another answer.
func TestRefsAreNewMemory(t *testing.T) {
	p := some(t, 8192)
	one, other := p.f.Refs(), p.f.Refs()
	for i := range one[:cap(one)] {
		one[:cap(one)][i] = api.Ref{Serial: 4242, At: 4242, Len: 42}
	}
	if !slices.Equal(other, p.m.refs()) {
		t.Errorf("R3: who writes into an answer of Refs changes another one: %v", other)
	}
	p.same(t)
	was := slices.Clone(other)
	p.patch(t, api.Move{Serial: 1, From: 0, To: 77})
	p.drop(t, 0)
	p.pack(t)
	if !slices.Equal(other, was) {
		t.Errorf("R3: who changes the forest changes what Refs answered: %v", other)
	}
}

// R3: keys and refs that were told stay as they are, whatever becomes of the forest; a key that is part of a greater text is kept without it.
func TestWhatWasToldStays(t *testing.T) {
	p := newPair(t, 4096)
	text := strings.Repeat("abcdefgh", 1000)
	for i := range 20 {
		p.put(t, 0, text[i:i+2+i], ref(i))
	}
	entries, want := told(p.f, 0), p.m[0].entries()
	k, r, _ := p.f.Seek(0, "b")
	k2, r2, _ := p.f.Back(0, "b")
	first, second := api.Entry{Key: strings.Clone(k), Ref: r}, api.Entry{Key: strings.Clone(k2), Ref: r2}
	for i := range 20 {
		p.patch(t, api.Move{Serial: ref(i).Serial, From: i, To: 9000})
		p.delete(t, 0, text[i:i+2+i])
		p.put(t, 0, long(i), ref(i))
		p.pack(t)
	}
	if !slices.Equal(entries, want) || first != (api.Entry{Key: k, Ref: r}) || second != (api.Entry{Key: k2, Ref: r2}) {
		t.Errorf("R3: what was told has changed: %v; want %v", entries, want)
	}
	p.same(t)
}

// R2: calls that change nothing, side by side, answer what they answer alone.
func TestReadSideBySide(t *testing.T) {
	p := some(t, 8192)
	all, want, refs := p.f.All(0), p.m[0].entries(), p.m.refs()
	var work sync.WaitGroup
	bad := make([]bool, 8)
	for i := range bad {
		work.Go(func() {
			for n := range 60 {
				k, _, is := p.f.Seek(0, key(n))
				_, r, _ := p.f.Back(0, key(n))
				bad[i] = bad[i] || !slices.Equal(gathered(all), want) || !slices.Equal(gathered(p.f.All(0)), want) ||
					!slices.Equal(p.f.Refs(), refs) || p.f.Len(0) != len(want) || !is || k != key((n+2)/3*3) || r != ref(n/3)
			}
		})
	}
	work.Wait()
	if slices.Contains(bad, true) {
		t.Error("R2: calls side by side answer something else")
	}
}

// R2: forests that are worked on side by side know nothing of one another.
func TestForestsSideBySide(t *testing.T) {
	var work sync.WaitGroup
	bad := make([]bool, 8)
	for i := range bad {
		p := newPair(t, 1<<15)
		work.Go(func() {
			c := chance(i + 1)
			for range 300 {
				root, k, r := c.anyRoot(), c.anyKey(), c.anyRef()
				bad[i] = bad[i] || p.f.Put(root, k, r) != api.OK
				p.m[root][k] = r
			}
			for root := range rootsMost {
				bad[i] = bad[i] || !slices.Equal(told(p.f, root), p.m[root].entries())
			}
		})
	}
	work.Wait()
	if slices.Contains(bad, true) {
		t.Error("R2: forests side by side answer something else")
	}
}
