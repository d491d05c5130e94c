package btree_test

import (
	"strings"
	"testing"

	"dunnage/api"
)

// Keys of each length, of each byte, and of bytes that are no letters, come back as they were.
func TestKeysOfEachLength(t *testing.T) {
	p := newPair(t, 1<<17)
	for n := 1; n <= keyMost; n++ {
		for i, b := range []string{"\x00", "a", "\xff", "\x80"} {
			p.put(t, n%3, strings.Repeat(b, n), ref(n+i))
		}
	}
	p.same(t)
	for b := range 256 {
		p.put(t, 4, string([]byte{byte(b)}), ref(b))
		p.put(t, 5, strings.Repeat("a", b%8)+string([]byte{byte(b), byte(255 - b)}), ref(b))
	}
	p.same(t)
}

// Refs of each edge come back as they were.
func TestRefsOfEachEdge(t *testing.T) {
	p := newPair(t, 1<<17)
	n := 0
	for _, serial := range []uint64{1, 2, 1<<31 - 1, 1 << 31, 1<<32 - 1, 1 << 32, 1<<32 + 1, 1<<63 - 1, 1 << 63, 1<<64 - 1} {
		for _, at := range []int{0, 1, 4095, 65535, sectorsMost} {
			for _, size := range []int{0, 1, 255, 4095, valueMost} {
				p.put(t, n%2, key(n/2), api.Ref{Serial: serial, At: at, Len: size})
				n++
			}
		}
	}
	p.same(t)
}

// Put of a key that is there gives it the new ref, and no key more; in one version, with the others as they were.
func TestPutOfWhatIsThere(t *testing.T) {
	for n := 1; n < 80; n++ {
		p := newPair(t, 1<<15)
		for i := range n {
			p.put(t, 2, key(i), ref(i))
		}
		p.copy(t, 2, 9)
		for i := range n {
			p.put(t, 9, key(i), ref(1000+i))
			p.put(t, 9, key(i), ref(1000+i))
		}
		if p.f.Len(2) != n || p.f.Len(9) != n {
			t.Fatalf("P17.1: Put of keys that are there: %d and %d keys; want %d", p.f.Len(2), p.f.Len(9), n)
		}
		p.list(t, 2)
		p.list(t, 9)
		if n%7 == 0 {
			p.same(t)
		}
	}
}

// Delete of what is not there answers false, asks for no room, and changes nothing, be it ahead of, between or behind the keys.
func TestDeleteOfWhatIsNot(t *testing.T) {
	for _, p := range []pair{some(t, 8192), full(t)} {
		for _, root := range []int{0, 1, 3, 7, 15} {
			for _, k := range []string{"\x00", "A", "a\x01", "b", key(1), key(4) + "x", key(999), "k", "kk", "\xff", long(5000), strings.Repeat("\xff", keyMost)} {
				if _, is := p.m[root][k]; is {
					t.Fatalf("the model's forest has %q", k)
				}
				p.stays(t, "Delete of what is not there", api.OK, func() api.Errno {
					is, e := p.f.Delete(root, k)
					if is {
						t.Errorf("P17.1: Delete(%d, %q): true", root, k)
					}
					return e
				})
			}
		}
	}
}

// Each key of versions of each size is deleted, alone, and put again.
func TestDeleteOfEachKey(t *testing.T) {
	for n := 1; n < 90; n += 1 + n/20 {
		p := newPair(t, 1<<15)
		for i := range n {
			p.put(t, 0, key(2*i), ref(i))
		}
		for i := range n {
			p.copy(t, 0, 1)
			p.delete(t, 1, key(2*i))
			p.list(t, 1)
			p.delete(t, 1, key(2*i))
			p.put(t, 1, key(2*i+1), ref(i))
			p.put(t, 1, key(2*i), ref(i))
			p.list(t, 1)
			p.list(t, 0)
		}
		p.same(t)
	}
}

// orders is ways to go through the numbers below n.
func orders(n int) map[string][]int {
	c := chance(n + 5)
	all := map[string][]int{"any": c.order(n), "any other": c.order(n)}
	for i := range n {
		all["rising"] = append(all["rising"], i)
		all["falling"] = append(all["falling"], n-1-i)
		all["from both ends"] = append(all["from both ends"], []int{i / 2, n - 1 - i/2}[i%2])
		all["from the midst"] = append(all["from the midst"], n/2+[]int{i / 2, -(i + 1) / 2}[i%2])
	}
	return all
}

// Many keys are put in each order, and deleted in each order; their copies stay.
func TestEachOrder(t *testing.T) {
	const n = 300
	for put, first := range orders(n) {
		for deleted, then := range orders(n) {
			t.Run(put+", "+deleted, func(t *testing.T) {
				t.Parallel()
				p := newPair(t, 1<<17)
				for i, k := range first {
					p.put(t, 5, key(k), ref(k))
					if i%50 == 0 {
						p.list(t, 5)
					}
				}
				p.copy(t, 5, 6)
				p.list(t, 5)
				for i, k := range then {
					p.delete(t, 5, key(k))
					if i%50 == 0 || i > n-20 {
						p.list(t, 5)
					}
				}
				if p.f.Len(5) != 0 || p.f.Len(6) != n {
					t.Errorf("P17.1: %d keys are left of none, %d of %d", p.f.Len(5), p.f.Len(6), n)
				}
				p.list(t, 6)
				p.drop(t, 6)
				p.pack(t)
				if p.f.Used() != 1 {
					t.Errorf("P17.3: of empty versions %d words are used", p.f.Used())
				}
			})
		}
	}
}

// Orders are what they are said to be.
func TestOrders(t *testing.T) {
	for _, n := range []int{1, 2, 7, 300} {
		for what, l := range orders(n) {
			seen := map[int]int{}
			for _, i := range l {
				seen[i]++
			}
			if len(l) != n || len(seen) != n || seen[0] != 1 || seen[n-1] != 1 {
				t.Errorf("the model's order %s of %d: %v", what, n, l)
			}
		}
	}
}

// Keys of all short texts: put, each in its turn, and deleted, each in its turn, in two versions that began alike.
func TestAllShortTexts(t *testing.T) {
	c := chance(71)
	for range 12 {
		p := newPair(t, 1<<16)
		all := texts(3)[1:]
		for _, i := range c.order(len(all)) {
			p.put(t, 0, all[i], ref(i))
		}
		p.copy(t, 0, 1)
		p.same(t)
		for n, i := range c.order(len(all)) {
			p.delete(t, n%2, all[i])
			p.put(t, 1-n%2, all[i], c.anyRef())
		}
		p.same(t)
	}
}

// Great versions, changed here and there.
func TestGreatVersions(t *testing.T) {
	c := chance(72)
	p := newPair(t, wordsMost)
	for _, i := range c.order(5000) {
		p.put(t, 0, key(i), ref(i))
	}
	p.copy(t, 0, 1)
	for range 3000 {
		p.delete(t, 1, key(c.next(5000)))
		p.put(t, 1, key(c.next(10000)), c.anyRef())
	}
	p.list(t, 0)
	l := p.list(t, 1)
	for range 500 {
		p.sees(t, 1, l, key(c.next(11000)))
	}
	for _, i := range c.order(10000) {
		p.delete(t, 1, key(i))
	}
	p.list(t, 0)
	p.list(t, 1)
}
