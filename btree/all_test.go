package btree_test

import (
	"iter"
	"slices"
	"testing"

	"dunnage/api"
	"dunnage/btree"
)

func gathered(all iter.Seq2[string, api.Ref]) []api.Entry {
	var l []api.Entry
	for k, r := range all {
		l = append(l, api.Entry{Key: k, Ref: r})
	}
	return l
}

// tells holds what a sequence tells against what it is to tell.
func tells(t *testing.T, what string, all iter.Seq2[string, api.Ref], want []api.Entry) {
	t.Helper()
	if got := gathered(all); !slices.Equal(got, want) {
		t.Fatalf("P17.2: All %s: %v; want %v", what, shown(got), shown(want))
	}
}

type deed struct {
	what string
	do   func(t *testing.T, p pair)
}

// deeds is all that changes a forest, the version 0 of which is asked.
func deeds() []deed {
	return []deed{
		{"nothing", func(t *testing.T, p pair) {}},
		{"Put of a new key", func(t *testing.T, p pair) { p.put(t, 0, key(10), ref(50)) }},
		{"Put of each key", func(t *testing.T, p pair) {
			for i := range 30 {
				p.put(t, 0, key(3*i), ref(60+i))
			}
		}},
		{"Delete of a key", func(t *testing.T, p pair) { p.delete(t, 0, key(30)) }},
		{"Delete of all keys", func(t *testing.T, p pair) {
			for i := range 30 {
				p.delete(t, 0, key(3*i))
			}
		}},
		{"Copy over it", func(t *testing.T, p pair) { p.copy(t, 3, 0) }},
		{"Drop", func(t *testing.T, p pair) { p.drop(t, 0) }},
		{"Drop of all, Pack, and others in their place", func(t *testing.T, p pair) {
			for root := range rootsMost {
				p.drop(t, root)
			}
			p.pack(t)
			for i := range 30 {
				p.put(t, 0, long(i), ref(i))
			}
		}},
		{"Patch", func(t *testing.T, p pair) {
			for i := range 30 {
				p.patch(t, api.Move{Serial: uint64(i) + 1, From: i, To: 900 + i})
			}
		}},
		{"Pack", func(t *testing.T, p pair) { p.pack(t) }},
		{"changes until there is no room", func(t *testing.T, p pair) {
			for i := range 200 {
				p.tryPut(t, 0, long(i), ref(i))
			}
		}},
	}
}

// All tells what was there when it was asked, whatever is done with the forest behind that, or while it is gone through.
func TestAllTellsWhatWasThere(t *testing.T) {
	for _, d := range deeds() {
		p := some(t, 5000)
		all, want := p.f.All(0), p.m[0].entries()
		d.do(t, p)
		tells(t, "asked ahead of "+d.what, all, want)
		tells(t, "asked ahead of "+d.what+", again", all, want)
		tells(t, "asked behind "+d.what, p.f.All(0), p.m[0].entries())
		p.same(t)
		for at := range want {
			p := some(t, 5000)
			n := 0
			for k, r := range p.f.All(0) {
				if (api.Entry{Key: k, Ref: r}) != want[n] {
					t.Fatalf("P17.2: All, with %s in its midst: %q, %v; want %v", d.what, k, r, want[n])
				}
				if n++; n == at+1 {
					d.do(t, p)
				}
			}
			if n != len(want) {
				t.Fatalf("P17.2: All, with %s in its midst: %d keys; want %d", d.what, n, len(want))
			}
			p.list(t, 0)
		}
	}
}

// Versions without keys, and what is no version, tell nothing: then, and behind keys came.
func TestAllOfNothing(t *testing.T) {
	p := newPair(t, 1024)
	var early []iter.Seq2[string, api.Ref]
	for root := -1; root <= rootsMost; root++ {
		early = append(early, p.f.All(root))
	}
	for root := range rootsMost {
		p.put(t, root, "a", ref(root))
	}
	for _, all := range early {
		tells(t, "of nothing", all, nil)
	}
	p.same(t)
	for _, root := range noRoots() {
		tells(t, "of no version", p.f.All(root), nil)
		if p.f.Len(root) != 0 {
			t.Errorf("P17.2: Len(%d): %d", root, p.f.Len(root))
		}
	}
}

// A sequence may be left at any key, and begins at the first one again.
func TestAllIsLeft(t *testing.T) {
	p := some(t, 8192)
	all, want := p.f.All(0), p.m[0].entries()
	for at := range len(want) + 1 {
		for range 2 {
			var got []api.Entry
			for k, r := range all {
				if got = append(got, api.Entry{Key: k, Ref: r}); len(got) > at {
					break
				}
			}
			if !slices.Equal(got, want[:min(at+1, len(want))]) {
				t.Fatalf("P17.2: All, left at %d: %v", at, got)
			}
		}
		tells(t, "behind being left", all, want)
	}
	func() {
		defer func() { _ = recover() }()
		for range all {
			panic("left")
		}
	}()
	tells(t, "behind a panic", all, want)
}

// R6: a sequence stops as soon as its function answers false, and asks it no more.
func TestAllStops(t *testing.T) {
	p := some(t, 8192)
	for at := 1; at <= p.f.Len(0); at++ {
		asked := 0
		p.f.All(0)(func(string, api.Ref) bool {
			if asked++; asked > at {
				t.Fatal("R6: All goes on behind false")
			}
			return asked < at
		})
		if asked != at {
			t.Errorf("R6: All, left at %d, tells %d", at, asked)
		}
	}
}

// A sequence that is gone through in its own midst tells what it would have told.
func TestAllInTheMidst(t *testing.T) {
	p := some(t, 8192)
	all, want := p.f.All(0), p.m[0].entries()
	var got []api.Entry
	for k, r := range all {
		got = append(got, api.Entry{Key: k, Ref: r})
		tells(t, "in the midst of itself", all, want)
		tells(t, "of a copy, in the midst", p.f.All(15), p.m[15].entries())
		for range all {
			break
		}
	}
	if !slices.Equal(got, want) {
		t.Errorf("P17.2: All with itself in its midst: %v", got)
	}
}

// All of versions of each size tell each key once, whatever they share with others.
func TestAllOfEachSize(t *testing.T) {
	for _, step := range []int{1, 7, 11} {
		p := newPair(t, 1<<17)
		for i := range 200 {
			p.put(t, i%2, key(i*step%211), ref(i))
			p.copy(t, i%2, 2+i%14)
			p.list(t, i%2)
			p.list(t, 2+(i+1)%14)
		}
		p.same(t)
	}
}

// No forest tells nothing.
func TestAllOfNoForest(t *testing.T) {
	var f *btree.Forest
	tells(t, "of no forest", f.All(0), nil)
	if f.All(-1) == nil || f.All(rootsMost) == nil {
		t.Error("R6: All of no forest is nil")
	}
}
