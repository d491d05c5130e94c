package thread_test

import (
	"slices"
	"strconv"
	"testing"

	"dunnage/api"
)

// Heaps, roots and answers that are written out.
func TestCompact(t *testing.T) {
	one := words(0, hd(1, 0, 0))
	self := words(0, hd(1, 0, 9), hd(3, 1, 4), 2, 2)
	ring := words(0, hd(2, 1, 1), 6, hd(3, 0, 2), 1, 6, hd(2, 1, 3), 8, hd(2, 1, 5), 1)
	w := words(0, hd(2, 1, 0), 6, hd(3, 0, 1), 1, 6, hd(2, 1, 2), 8, hd(3, 2, 3), 0, 6, hd(2, 1, 4), 11)
	rows := []struct {
		what  string
		w     []uint32
		roots []int
		want  answer
	}{
		{"example 1", example(), places(3), answer{words(0, hd(2, 1, 2), 3, hd(1, 0, 3)), places(1), went(3, 1, 5, 3), api.OK}},
		{"example 1", example(), nil, answer{w: words(0)}},
		{"example 1", example(), places(5), answer{words(0, hd(1, 0, 3)), places(1), went(5, 1), api.OK}},
		{"example 1", example(), places(1), answer{words(0, hd(2, 0, 1), 7), places(1), went(1, 1), api.OK}},
		{"example 1", example(), places(3, 1), answer{example(), places(3, 1), went(1, 1, 3, 3, 5, 5), api.OK}},
		{"example 1", example(), places(0, 5, 3, 5), answer{words(0, hd(2, 1, 2), 3, hd(1, 0, 3)), places(0, 3, 1, 3), went(3, 1, 5, 3), api.OK}},
		{"the word 0", words(0), nil, answer{w: words(0)}},
		{"the word 0", words(0), places(0, 0, 0), answer{w: words(0), roots: places(0, 0, 0)}},
		{"one object", one, nil, answer{w: words(0)}},
		{"one object", one, places(0), answer{w: words(0), roots: places(0)}},
		{"one object", one, places(1), answer{one, places(1), went(1, 1), api.OK}},
		{"one object", one, places(1, 0, 1), answer{one, places(1, 0, 1), went(1, 1), api.OK}},
		{"one to itself", self, places(2), answer{words(0, hd(3, 1, 4), 1, 2), places(1), went(2, 1), api.OK}},
		{"one to itself", self, places(1), answer{words(0, hd(1, 0, 9)), places(1), went(1, 1), api.OK}},
		{"one to itself", self, places(2, 1), answer{self, places(2, 1), went(1, 1, 2, 2), api.OK}},
		{"a ring", ring, places(8), answer{words(0, hd(2, 1, 1), 3, hd(2, 1, 3), 5, hd(2, 1, 5), 1), places(5), went(1, 1, 6, 3, 8, 5), api.OK}},
		{"a ring", ring, places(3), answer{words(0, hd(3, 0, 2), 1, 6), places(1), went(3, 1), api.OK}},
		{"a ring", ring, places(1, 3), answer{ring, places(1, 3), went(1, 1, 3, 3, 6, 6, 8, 8), api.OK}},
		{"five objects", w, places(1), answer{words(0, hd(2, 1, 0), 3, hd(2, 1, 2), 5, hd(3, 2, 3), 0, 3), places(1), went(1, 1, 6, 3, 8, 5), api.OK}},
		{"five objects", w, places(8), answer{words(0, hd(2, 1, 2), 3, hd(3, 2, 3), 0, 1), places(3), went(6, 1, 8, 3), api.OK}},
		{"five objects", w, places(11, 3), answer{words(0, hd(3, 0, 1), 1, 6, hd(2, 1, 4), 4), places(4, 1), went(3, 1, 11, 4), api.OK}},
		{"five objects", w, places(11, 0, 6), answer{words(0, hd(2, 1, 2), 3, hd(3, 2, 3), 0, 1, hd(2, 1, 4), 6), places(6, 0, 1), went(6, 1, 8, 3, 11, 6), api.OK}},
		{"five objects", w, places(3, 11, 1), answer{w, places(3, 11, 1), went(1, 1, 3, 3, 6, 6, 8, 8, 11, 11), api.OK}},
	}
	for _, r := range rows {
		tells(t, r.what, r.w, r.roots, r.want)
		if m := slid(r.w, r.roots); !alike(m, r.want) {
			t.Fatalf("the model of %s, by %v: %v; want %v", r.what, r.roots, m, r.want)
		}
	}
}

// Each heap of three objects with up to two pointers each, by each list of up to two roots.
func TestSmallHeaps(t *testing.T) {
	var lists [][]int
	shortLists(2, places(0, 1, 2, 3), func(l []int) { lists = append(lists, l) })
	for _, a := range lists {
		for _, b := range lists {
			for _, c := range lists {
				w, at := graph((len(a)+len(b)+len(c))%2, a, b, c)
				for _, numbers := range lists {
					same(t, "three objects", w, chosen(at, numbers))
				}
			}
		}
	}
}

// chosen is the places of the objects of these numbers.
func chosen(at, numbers []int) []int {
	var l []int
	for _, k := range numbers {
		l = append(l, at[k])
	}
	return l
}

func TestAnyHeaps(t *testing.T) {
	c := chance(21)
	for range 20000 {
		w, at := heapOf(&c, c.next(14))
		same(t, "objects by chance", w, rootsOf(&c, at))
	}
	for range 50 {
		w, at := heapOf(&c, 2000+c.next(2000))
		same(t, "many objects by chance", w, rootsOf(&c, at))
	}
}

// Which objects live, in each way: all, none, all but the first, the last, every other one. They are of unlike sizes, and those that live point to themselves and to each other.
func TestWhatDies(t *testing.T) {
	const n = 9
	for lives := range 1 << n {
		var numbers []int
		for i := range n {
			if lives>>i%2 == 1 {
				numbers = append(numbers, 1+i)
			}
		}
		to := make([][]int, n)
		for i := range n {
			to[i] = slices.Repeat(places(1+i), i%3)
			if lives>>i%2 == 0 {
				to[i] = append(to[i], 1, n) // what is dead may point to what lives
			} else if len(numbers) > 0 {
				to[i] = append(to[i], 0, numbers[i%len(numbers)], numbers[(i+3)%len(numbers)])
			}
		}
		w, at := graph(lives%4, to...)
		a := same(t, "nine objects", w, chosen(at, numbers))
		if len(a.moved) != len(numbers) || len(a.roots) != len(numbers) {
			t.Fatalf("P15.1: of nine objects %v live: %v went", numbers, a.moved)
		}
		slices.Reverse(numbers)
		same(t, "nine objects, roots the other way", w, chosen(at, numbers))
	}
}

// Rings and chains that go up and down, with dead objects between theirs; from each of their objects on.
func TestRings(t *testing.T) {
	for n := 1; n <= 12; n++ {
		rings := [4][][]int{}
		for i := range n {
			dead := places(1+(2*i+5)%(2*n), 2+2*i)
			rings[0] = append(rings[0], dead, places(2+2*((i+1)%n)))
			rings[1] = append(rings[1], dead, places(2+2*((i+n-1)%n)))
			rings[2] = append(rings[2], dead, places(2*((i+2)%(n+1))))
			rings[3] = append(rings[3], dead, places(2*i))
		}
		for which, to := range rings {
			w, at := graph(n%3, to...)
			for i := range n {
				a := same(t, "ring or chain "+strconv.Itoa(which), w, places(at[2+2*i]))
				if want := [4]int{n, n, n - i, i + 1}[which]; len(a.moved) != want {
					t.Fatalf("P15.1: of ring or chain %d, from object %d of %d on: %v went", which, i, n, a.moved)
				}
			}
			same(t, "ring or chain with more roots", w, places(at[2*n], at[2], 0, at[2+n/2*2], at[2]))
		}
	}
}

// A pointer at each place among as many as may be, onward, back and to itself; a word behind the last pointer stays.
func TestEachPointer(t *testing.T) {
	for _, ptrs := range places(0, 1, 2, 3, 4, 5, 6, 7, 8, 63, 64, 65, ptrsMost-1, ptrsMost) {
		for i := range ptrs + 2 {
			w := words(0, hd(1, 0, 0), hd(1, 0, 1), hd(1, 0, 2), hd(3+ptrs, ptrs, 3))
			w = append(append(w, make([]uint32, ptrs+2)...), hd(1, 0, 4), hd(1, 0, 5))
			end := len(w) - 1
			for _, to := range places(3, 4, end) {
				w[5+i] = uint32(to)
				same(t, "an object with a pointer at "+strconv.Itoa(i), w, places(4))
				same(t, "an object with a pointer at "+strconv.Itoa(i), w, places(end, 4, 2))
			}
		}
	}
}

// Many to one: from ahead, from behind, from itself, from one object and from many; from all roots too.
func TestManyToOne(t *testing.T) {
	const n = 40
	for one := 1; one <= n; one++ {
		to := slices.Repeat([][]int{places(one)}, n)
		to[(one+7)%n] = slices.Repeat(places(one), ptrsMost)
		to[n/2] = nil
		for i := 1; i <= n; i += 2 {
			to[n/2] = append(to[n/2], i, one)
		}
		w, at := graph(one%3, to...)
		same(t, "many to one", w, places(at[n/2+1]))
		same(t, "many to one", w, append(at[1:rootsMost:rootsMost], at[one]))
		same(t, "many to one", w, slices.Repeat(places(at[one]), rootsMost))
		a := same(t, "many to one", w, append(slices.Repeat(places(at[one]), rootsMost-1), at[n/2+1]))
		if len(a.moved) < n/2 {
			t.Fatalf("P15.1: of many to %d: %v went", one, a.moved)
		}
	}
	to := slices.Repeat([][]int{nil}, n)
	for i := range n {
		for k := range n {
			to[i] = append(to[i], 1+k)
		}
	}
	w, at := graph(1, append([][]int{places(2)}, to...)...)
	for _, i := range places(2, n/2, n) {
		same(t, "all to all", w, places(at[i]))
	}
}

// Words that are no pointers stay, whatever they look like: places of what goes, dies or stays, threads, heads, their halves and doubles.
func TestWordsStay(t *testing.T) {
	heads := words(hd(1, 0, 0), hd(1, 0, 1), hd(2, 1, 2), hd(8, 1, 15), hd(sizeMost, ptrsMost, kindMost))
	like := words(0, 1, 2, 3, 1<<31, 1<<32-1, 1<<32-2, wordsMost, wordsMost-1)
	for at := range uint32(40) {
		like = append(like, at, 2*at, 2*at+1, at<<4, at<<12, at<<12|1, 1<<31|at)
	}
	for _, h := range heads {
		like = append(like, h, h/2, h*2, h*2+1, h+1, h-1)
	}
	for _, a := range like {
		for _, b := range words(0, 1, 3, a, a^1, ^a) {
			w := words(0, hd(2, 0, 0), a, hd(4, 1, 6), 11, a, b, hd(4, 0, 7), b, a, a, hd(4, 2, 9), 3, 11, b)
			got := tells(t, "words that look like others", w, places(3), answer{words(0, hd(4, 1, 6), 5, a, b, hd(4, 2, 9), 1, 5, b), places(1), went(3, 1, 11, 5), api.OK})
			tells(t, "words that look like others", got.w, got.roots, answer{got.w, got.roots, went(1, 1, 5, 5), api.OK})
			same(t, "words that look like others", w, places(7, 11, 1, 3))
		}
	}
}

// Heads stay: each kind, with each count of pointers, met from ahead, from behind, from itself and by a root.
func TestHeadsStay(t *testing.T) {
	for kind := range kindMost + 1 {
		for ptrs := range ptrsMost + 1 {
			for more := range 2 {
				h := hd(1+ptrs+more, ptrs, kind)
				w := words(0, hd(1, 0, 0), hd(3, 1, 1), 5, 2, h)
				for i := range ptrs {
					w = append(w, uint32(places(5, 2, 0, 6+ptrs+more)[i%4]))
				}
				w = append(append(w, slices.Repeat(words(5), more)...), hd(2, 1, 2), 5)
				end := uint32(len(w) - 2)
				want := words(0, hd(3, 1, 1), 4, 2, h)
				for i := range ptrs {
					want = append(want, words(4, 1, 0, end-1)[i%4])
				}
				want = append(append(want, slices.Repeat(words(5), more)...), hd(2, 1, 2), 4)
				tells(t, "a head", w, places(2, int(end)), answer{want, places(1, int(end)-1), went(2, 1, 5, 4, int(end), int(end)-1), api.OK})
			}
		}
	}
}

// As many roots as may be: one of them an object, all of them objects, one object often; and one more than may be.
func TestRoots(t *testing.T) {
	w, at := graph(1, slices.Repeat([][]int{{}}, rootsMost+1)...)
	for i := range rootsMost {
		roots, to := make([]int, rootsMost), make([]int, rootsMost)
		roots[i], to[i] = at[1+i], 1
		tells(t, "sixteen roots", w, roots, answer{words(0, hd(2, 0, i), w[at[1+i]+1]), to, went(at[1+i], 1), api.OK})
		same(t, "so many roots", w, at[1:2+i])
		same(t, "so many roots", w, at[2+i:])
		same(t, "one root so often", w, slices.Repeat(places(at[2+i]), 1+i))
	}
	tells(t, "seventeen roots", w, at[1:rootsMost+2], answer{e: api.ErrForm})
	tells(t, "seventeen roots that are 0", w, make([]int, rootsMost+1), answer{e: api.ErrForm})
}
