package btree_test

import (
	"slices"
	"strings"
	"testing"
)

// Every text, asked of versions of some of the short texts: ahead of all keys, at them, between, and behind.
func TestFindOfEachText(t *testing.T) {
	c := chance(31)
	probes := append(texts(3), strings.Repeat("\x00", 100), strings.Repeat("b", 100), strings.Repeat("\xff", 100), long(1))
	all := texts(3)[1:]
	for n := range len(all) + 1 {
		p := newPair(t, 1<<16)
		for _, i := range c.order(len(all))[:n] {
			p.put(t, n%rootsMost, all[i], ref(i))
		}
		l := p.list(t, n%rootsMost)
		for _, text := range probes {
			p.sees(t, n%rootsMost, l, text)
			p.sees(t, (n+1)%rootsMost, nil, text)
			p.sees(t, -1, nil, text)
			p.sees(t, rootsMost, nil, text)
		}
	}
}

// Versions of each number of keys, with a text asked at each key and at both sides of it.
func TestFindAboutEachKey(t *testing.T) {
	for n := range 200 {
		p := newPair(t, 1<<16)
		for i := range n {
			p.put(t, 0, key(i*7%n*2), ref(i))
		}
		l := p.list(t, 0)
		for i := range n {
			for _, text := range []string{key(2 * i), key(2*i + 1), key(2 * i)[:6], key(2*i) + "\x00"} {
				p.sees(t, 0, l, text)
			}
		}
	}
}

// Versions whose keys are taken away one by one: what is left is found from everywhere.
func TestFindOfWhatIsLeft(t *testing.T) {
	c := chance(32)
	for _, n := range []int{9, 33, 70} {
		p := newPair(t, 1<<16)
		for i := range n {
			p.put(t, 0, key(2*i), ref(i))
		}
		for _, i := range c.order(n) {
			p.delete(t, 0, key(2*i))
			l := p.list(t, 0)
			for text := -1; text <= 2*n; text++ {
				p.sees(t, 0, l, key(max(text, 0))+strings.Repeat("!", -min(text, 0)))
			}
			p.sees(t, 0, l, "")
			p.sees(t, 0, l, "z")
		}
	}
}

// Steps of Seek from each key to the next tell what All tells; steps of Back the same, falling.
func TestStepsTellAll(t *testing.T) {
	p := some(t, 8192)
	for root := range rootsMost {
		var up, down, want []string
		for k, _, is := p.f.Seek(root, ""); is; k, _, is = p.f.Seek(root, k+"\x00") {
			up = append(up, k)
		}
		for k, _, is := p.f.Back(root, "\xff"); is; k, _, is = p.f.Back(root, justBelow(k)) {
			down = append(down, k)
		}
		for k := range p.f.All(root) {
			want = append(want, k)
		}
		slices.Reverse(down)
		if !slices.Equal(up, want) || !slices.Equal(down, want) {
			t.Errorf("P17.2: steps in the version %d: %q up, %q down; want %q", root, up, down, want)
		}
	}
}

// justBelow is a text below a key, such that no key is between.
func justBelow(k string) string {
	last := len(k) - 1
	if k[last] == 0 {
		return k[:last]
	}
	return k[:last] + string([]byte{k[last] - 1}) + strings.Repeat("\xff", keyMost)
}
