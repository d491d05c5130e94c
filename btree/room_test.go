package btree_test

import (
	"testing"

	"dunnage/api"
)

// rooms is numbers of words about those at which the promise has one key more.
func rooms() []int {
	return []int{17 * 128, 17*128 + 1, 18*128 - 1, 18 * 128, 19 * 128, 25 * 128, 33 * 128, 50*128 + 127, 100 * 128, 300 * 128, 131072}
}

// promisedKeys is how many keys have room by the chapter's words: the last one with as many others as may be.
func promisedKeys(words int) int { return words/128 - 16 }

// Room for the last key of the promise, of the longest keys, in one version and in many.
func TestRoomToTheLastKey(t *testing.T) {
	for _, words := range rooms() {
		for _, versions := range []int{1, 2, 5, rootsMost} {
			for _, step := range []int{1, -1, 7} {
				p := newPair(t, words)
				n := promisedKeys(words)
				for i := range n {
					if !p.promised() {
						t.Fatalf("the model: %d keys of %d are not promised room in %d words", i, n, words)
					}
					p.put(t, i%versions, long(500+step*i), ref(i))
				}
				if p.promised() {
					t.Fatalf("the model: more than %d keys are promised room in %d words", n, words)
				}
				for root := range versions {
					p.list(t, root)
				}
			}
		}
	}
}

// Round upon round, with as many keys as may be: each one is given another ref, is deleted, and comes again.
func TestRoomThroughManyRounds(t *testing.T) {
	for _, words := range rooms() {
		for _, versions := range []int{1, 3, rootsMost} {
			p := newPair(t, words)
			c := chance(words + versions)
			n := promisedKeys(words) - 1
			for i := range n {
				p.put(t, i%versions, long(i), ref(i))
			}
			for range 2 + 100/(n+10) {
				for _, i := range c.order(n) {
					p.put(t, i%versions, long(i), c.anyRef())
					p.put(t, i%versions, long(i), ref(i))
				}
				for _, i := range c.order(n) {
					p.delete(t, i%versions, long(i))
					p.put(t, i%versions, long(n+i), c.anyRef())
					p.delete(t, i%versions, long(n+i))
					p.put(t, i%versions, long(i), ref(i))
				}
			}
			for root := range versions {
				p.list(t, root)
			}
		}
	}
}

// Copies share what they have alike; room is promised as if they did not, so there is room to change each key of each of them.
func TestRoomForCopiesThatPart(t *testing.T) {
	for _, words := range rooms() {
		p := newPair(t, words)
		each := (promisedKeys(words) - 1) / rootsMost
		for i := range each {
			p.put(t, 0, long(i), ref(i))
		}
		for root := 1; root < rootsMost; root++ {
			p.copy(t, 0, root)
		}
		for i := range each {
			for root := range rootsMost {
				p.put(t, root, long(i), ref(root*1000+i))
			}
		}
		for root := range rootsMost {
			p.list(t, root)
			for i := range each {
				p.delete(t, root, long(i))
			}
		}
	}
}

// Versions that were great and have few keys left need room as small ones do: what is taken away gives its room back.
func TestRoomOfWhatWasTakenAway(t *testing.T) {
	const words = 100 * 128
	for gap := 2; gap < 40; gap += 3 {
		p := newPair(t, words)
		n := promisedKeys(words)
		kept := 0
		for i := 0; p.promised(); i++ {
			p.put(t, i%2, long(i), ref(i))
			if i%gap > 0 {
				p.delete(t, i%2, long(i))
			} else {
				kept++
			}
		}
		if kept != n {
			t.Errorf("P17.4: one key of %d is kept: %d of %d", gap, kept, n)
		}
		p.list(t, 0)
		p.list(t, 1)
	}
	p := newPair(t, words)
	for i := range 84 {
		p.put(t, 0, long(i), ref(i))
	}
	for i := range 84 {
		if i%9 > 0 {
			p.delete(t, 0, long(i))
		}
	}
	for root := 1; p.promised(); root = root%15 + 1 {
		p.put(t, root, long(p.m.count()), ref(root))
	}
	p.same(t)
}

// Room is refused where there is none: more than the words can hold. Then the arena is packed, all is as it was, and so it is the next time.
func TestFull(t *testing.T) {
	for _, words := range []int{wordsLeast, 64, 100, 1000, 4096, 20000} {
		for _, versions := range []int{1, 4} {
			p := newPair(t, words)
			n := 0
			for p.tryPut(t, n%versions, long(n), ref(n)) {
				if n++; n*keyMost/4 >= words {
					t.Fatalf("P17.1: %d keys of 64 bytes in %d words", n, words)
				}
			}
			for range 3 {
				p.stays(t, "Put without room", api.ErrFull, func() api.Errno { return p.f.Put(n%versions, long(n), ref(n)) })
			}
			p.stays(t, "Put without room, of no key", api.ErrArg, func() api.Errno { return p.f.Put(0, "", ref(n)) })
			for root := range versions {
				p.drop(t, root)
			}
			p.same(t)
			if n > 0 {
				p.put(t, 0, long(n), ref(n))
			}
		}
	}
}

// Delete is refused where there is no room: behind copies, which keep what it would give back.
func TestDeleteWithoutRoom(t *testing.T) {
	for _, words := range []int{64, 100, 200, 400} {
		p := newPair(t, words)
		n := 0
		for p.tryPut(t, 0, key(n), ref(n)) {
			n++
		}
		refused := 0
		for root := 1; root < rootsMost; root++ {
			p.copy(t, 0, root)
			for i := range n {
				if !p.tryDelete(t, 0, key(i)) && refused < 2*root {
					refused++
					p.stays(t, "Delete without room", api.ErrFull, func() api.Errno {
						is, e := p.f.Delete(0, key(i))
						if is {
							t.Errorf("R4: Delete(0, %q): true, beside error %d", key(i), e)
						}
						return e
					})
				}
			}
		}
		if refused == 0 {
			t.Errorf("the model: no Delete of %d keys is refused in %d words", n, words)
		}
	}
}

// Where there is room only behind packing, the arena is packed: changes go on for ever.
func TestRoomByPacking(t *testing.T) {
	p := newPair(t, 200)
	for i := range 2000 {
		p.put(t, i%3, "a", ref(i))
		p.put(t, i%3, "b", ref(i))
		p.delete(t, i%3, "a")
		if p.f.Used() > 200 {
			t.Fatalf("P17.3: %d of 200 words are used", p.f.Used())
		}
	}
	p.same(t)
}

// The greatest forest has room for all the keys of its promise.
func TestRoomOfTheGreatestForest(t *testing.T) {
	p := newPair(t, wordsMost)
	n := promisedKeys(wordsMost)
	for i := range n {
		p.put(t, i%rootsMost, long(i*7919%n), ref(i))
	}
	if p.promised() || p.m.count() != n {
		t.Errorf("the model: %d keys in the greatest forest; want %d", p.m.count(), n)
	}
	for root := range rootsMost {
		p.list(t, root)
	}
}

// Pack tells how many words became free, and changes nothing that is told; once more nothing becomes free.
func TestPack(t *testing.T) {
	p := some(t, 1<<14)
	for _, d := range deeds() {
		d.do(t, p)
		p.pack(t)
		p.same(t)
		if n := p.pack(t); n != 0 {
			t.Errorf("P17.3: Pack behind %s, once more: %d", d.what, n)
		}
	}
}

// What is replaced or deleted is free behind Pack: a version that is as it was needs as many words as it did.
func TestPackGivesAllBack(t *testing.T) {
	p := newPair(t, 1<<14)
	p.put(t, 4, "a", ref(1))
	one := p.f.Used()
	for i := range 5 {
		p.put(t, 4, "a", ref(i))
	}
	if n := p.pack(t); n <= 0 || p.f.Used() != one {
		t.Errorf("P17.3: one key, given a ref five times: Pack: %d, %d words used; want %d", n, p.f.Used(), one)
	}
	p.put(t, 4, "b", ref(2))
	p.copy(t, 4, 5)
	p.delete(t, 4, "b")
	p.delete(t, 5, "b")
	p.drop(t, 5)
	p.pack(t)
	if p.f.Used() != one {
		t.Errorf("P17.3: one key: %d words used; want %d", p.f.Used(), one)
	}
	p.delete(t, 4, "a")
	if n := p.pack(t); n != one-1 || p.f.Used() != 1 {
		t.Errorf("P17.3: no key: Pack: %d, %d words used", n, p.f.Used())
	}
}
