package mark_test

import (
	"slices"
	"strconv"
	"testing"

	"dunnage/api"
	"dunnage/cells"
)

func TestLive(t *testing.T) {
	w := words(0, hd(2, 1, 0), 6, hd(3, 0, 1), 1, 6, hd(2, 1, 2), 8, hd(3, 2, 3), 0, 6, hd(2, 1, 4), 11)
	rows := []struct {
		what  string
		w     []uint32
		roots []int
		at    []int
		sum   int
	}{
		{"example 1", example(), places(1), places(1, 4), 4},
		{"example 1", example(), places(4), places(4), 1},
		{"example 1", example(), nil, nil, 0},
		{"example 1", example(), places(4, 1), places(1, 4), 4},
		{"the word 0", words(0), nil, nil, 0},
		{"the word 0", words(0), places(0, 0), nil, 0},
		{"one object", words(0, hd(1, 0, 0)), places(1), places(1), 1},
		{"one object", words(0, hd(1, 0, 0)), places(0), nil, 0},
		{"one that points to itself", words(0, hd(2, 1, 0), 1), places(1), places(1), 2},
		{"one that points to none", words(0, hd(3, 2, 0), 0, 0), places(1), places(1), 3},
		{"five objects", w, nil, nil, 0},
		{"five objects", w, places(0), nil, 0},
		{"five objects", w, places(1), places(1, 6, 8), 7},
		{"five objects", w, places(3), places(3), 3},
		{"five objects", w, places(6), places(6, 8), 5},
		{"five objects", w, places(8), places(6, 8), 5},
		{"five objects", w, places(11), places(11), 2},
		{"five objects", w, places(11, 0, 3), places(3, 11), 5},
		{"five objects", w, places(8, 3), places(3, 6, 8), 8},
		{"five objects", w, places(11, 8, 6, 3, 1), places(1, 3, 6, 8, 11), 12},
		{"five objects", w, places(11, 11), places(11), 2},
		{"five objects", w, places(8, 1, 8, 0, 1, 6), places(1, 6, 8), 7},
	}
	for _, r := range rows {
		tells(t, r.what, r.w, r.roots, r.at, r.sum, api.OK)
		same(t, r.what, r.w, r.roots)
	}
}

// Each heap of three objects with up to two pointers each, by each list of up to two roots.
func TestLiveOfSmallHeaps(t *testing.T) {
	var lists [][]int
	shortLists(2, places(0, 1, 2, 3), func(l []int) { lists = append(lists, l) })
	for _, a := range lists {
		for _, b := range lists {
			for _, c := range lists {
				w, at := graph((len(a)+len(b)+len(c))%2, a, b, c)
				for _, numbers := range lists {
					same(t, "three objects", w, rooted(at, numbers))
				}
			}
		}
	}
}

// rooted is the places of the objects of these numbers.
func rooted(at, numbers []int) []int {
	var roots []int
	for _, k := range numbers {
		roots = append(roots, at[k])
	}
	return roots
}

func TestLiveOfAnyHeaps(t *testing.T) {
	c := chance(21)
	for range 20000 {
		w, at := heapOf(&c, c.next(12))
		same(t, "objects by chance", w, rootsOf(&c, at))
	}
}

// Rings of each length: each object of one leads to all of them, and to none of another.
func TestLiveOfRings(t *testing.T) {
	for n := 1; n <= 12; n++ {
		var to [][]int
		for i := range n { // one ring over 1 to n, and one that goes the other way, over n+1 to 2n
			to = append(to, places(1+(i+1)%n))
		}
		for i := range n {
			to = append(to, places(n+1+(i+n-1)%n))
		}
		w, at := graph(n%3, to...)
		one, other, size := at[1:n+1], at[n+1:], 2+n%3
		for i := range n {
			tells(t, "a ring", w, places(one[i]), one, n*size, api.OK)
			tells(t, "a ring that goes back", w, places(other[i]), other, n*size, api.OK)
			tells(t, "two rings", w, places(other[i], one[i]), at[1:], 2*n*size, api.OK)
		}
	}
}

// Chains: from each object on all that stand behind it live, and none ahead of it; whether they go up or down.
func TestLiveOfChains(t *testing.T) {
	const n = 40
	var up, down [][]int
	for i := range n {
		up, down = append(up, places((i+2)%(n+1))), append(down, places(i))
	}
	for more := range 3 {
		w, at := graph(more, up...)
		v, _ := graph(more, down...)
		for i := 1; i <= n; i++ {
			tells(t, "a chain that goes up", w, places(at[i]), at[i:], (n+1-i)*(2+more), api.OK)
			tells(t, "a chain that goes down", v, places(at[i]), at[1:i+1], i*(2+more), api.OK)
		}
	}
}

// A pointer at each place among as many as may be: it leads, and a word behind the last pointer does not.
func TestEachPointerLeads(t *testing.T) {
	for ptrs := range ptrsMost + 1 {
		for at := range ptrs + 2 {
			w := words(0, hd(3+ptrs, ptrs, 3))
			w = append(append(w, make([]uint32, ptrs+2)...), hd(1, 0, 0))
			end := len(w) - 1
			w[2+at] = uint32(end)
			if at < ptrs {
				tells(t, "an object with a pointer at "+strconv.Itoa(at), w, places(1), places(1, end), ptrs+4, api.OK)
			} else {
				tells(t, "an object with a word like a pointer at "+strconv.Itoa(at), w, places(1), places(1), ptrs+3, api.OK)
			}
		}
	}
}

// Many to one, and one to many: what is met often is told once.
func TestManyToOne(t *testing.T) {
	var to [][]int
	for range ptrsMost {
		to = append(to, places(ptrsMost+1))
	}
	var each []int
	for i := range ptrsMost {
		each = append(each, 1+i)
	}
	to = append(to, nil, each, slices.Repeat(places(1), ptrsMost))
	w, at := graph(0, to...)
	one, fan, often := at[ptrsMost+1], at[ptrsMost+2], at[ptrsMost+3]
	tells(t, "many to one", w, at[1:rootsMost+1], append(slices.Clone(at[1:rootsMost+1]), one), 2*rootsMost+1, api.OK)
	tells(t, "one to many", w, places(fan), at[1:ptrsMost+3], 2*ptrsMost+1+1+ptrsMost, api.OK)
	tells(t, "often to one", w, places(often), places(at[1], one, often), 2+1+1+ptrsMost, api.OK)
}

// 'What follows': each object is looked at once. Each of these leads twice to the next: there are 2^200 ways to the last.
func TestManyWays(t *testing.T) {
	const n = 200
	var to [][]int
	for i := range n {
		to = append(to, places((i+2)%(n+1), (i+2)%(n+1)))
	}
	w, at := graph(0, to...)
	tells(t, "many ways", w, places(1), at[1:], 3*n, api.OK)
	for i := range n { // and each of them to all
		to[i] = nil
		for k := range n {
			to[i] = append(to[i], 1+k)
		}
	}
	w, at = graph(0, to...)
	for _, i := range places(1, 100, n) {
		tells(t, "all to all", w, places(at[i]), at[1:], n*(n+1), api.OK)
	}
}

// As many roots as may be: of each place of the list, the others 0; and one more.
func TestLiveOfRoots(t *testing.T) {
	w, at := graph(1, slices.Repeat([][]int{{}}, rootsMost+1)...)
	for i := range rootsMost {
		roots := make([]int, rootsMost)
		roots[i] = at[1+i]
		tells(t, "sixteen roots", w, roots, places(at[1+i]), 2, api.OK)
		tells(t, "so many roots", w, at[1:1+i], at[1:1+i], 2*i, api.OK)
	}
	tells(t, "sixteen roots", w, at[1:rootsMost+1], at[1:rootsMost+1], 2*rootsMost, api.OK)
	tells(t, "one root, often", w, slices.Repeat(at[3:4], rootsMost), at[3:4], 2, api.OK)
	tells(t, "seventeen roots", w, at[1:rootsMost+2], nil, 0, api.ErrForm)
	tells(t, "seventeen roots that are 0", w, make([]int, rootsMost+1), nil, 0, api.ErrForm)
}

// chainOf is a heap of so many words, an object for two words (and one more word in the last, if they are not even); to says whither the i-th of n points.
func chainOf(n int, to func(i, n int) int) ([]uint32, []int) {
	w, at, many := make([]uint32, n), []int(nil), (n-1)/2
	for i := range many {
		place := 1 + 2*i
		at = append(at, place)
		w[place] = hd(2, 1, 0)
		if k := to(i, many); k >= 0 && k < many {
			w[place+1] = uint32(1 + 2*k)
		}
	}
	if n%2 == 0 {
		w[at[many-1]] = hd(3, 1, 0)
	}
	return w, at
}

// Heaps of as many words as may be, and one more, in all their shapes.
func TestLiveOfGreatHeaps(t *testing.T) {
	for _, n := range []int{wordsMost - 1, wordsMost} {
		w, at := chainOf(n, func(i, n int) int { return i + 1 })
		half := len(at) / 2
		tells(t, "a chain up", w, places(1), at, n-1, api.OK)
		tells(t, "half of a chain up", w, places(at[half]), at[half:], n-at[half], api.OK)
		w, at = chainOf(n, func(i, n int) int { return i - 1 })
		tells(t, "a chain down", w, at[len(at)-1:], at, n-1, api.OK)
		tells(t, "half of a chain down", w, places(at[half]), at[:half+1], 2*half+2, api.OK)
		w, at = chainOf(n, func(i, n int) int { return (i + 7) % n })
		tells(t, "a ring", w, places(at[5]), at, n-1, api.OK)
		w, at = chainOf(n, func(i, n int) int { return 0 })
		tells(t, "many to one", w, places(at[9], at[half]), places(1, at[9], at[half]), 6, api.OK)
		tells(t, "no roots", w, nil, nil, 0, api.OK)
	}
	w, _ := chainOf(wordsMost+1, func(i, n int) int { return i + 1 })
	tells(t, "too many words", w, places(1), nil, 0, api.ErrForm)
	tells(t, "too many words", w, nil, nil, 0, api.ErrForm)
}

// Great objects, and as many small ones as may be, met all at once, or by a tree.
func TestLiveOfGreatObjects(t *testing.T) {
	w := make([]uint32, wordsMost)
	w[1] = hd(sizeMost, ptrsMost, 15)
	w[2], w[256] = 1, 1
	tells(t, "a great object", w, places(1), places(1), sizeMost, api.OK)
	tells(t, "a great object", w, nil, nil, 0, api.OK)
	const each = 1 + ptrsMost
	var at []int
	for i := range wordsMost / each { // a tree, of which each object has as many pointers as may be
		place := 1 + each*i
		if place+each > wordsMost {
			break
		}
		at = append(at, place)
	}
	clear(w)
	for i, place := range at {
		w[place] = hd(each, ptrsMost, 0)
		for k := range ptrsMost {
			if child := ptrsMost*i + 1 + k; child < len(at) {
				w[place+1+k] = uint32(at[child])
			}
		}
	}
	end := at[len(at)-1] + each
	w = w[:end]
	if e := cells.Check(w, nil); e != api.OK {
		t.Fatalf("the tree: error %d", e)
	}
	tells(t, "a great tree", w, places(1), at, end-1, api.OK)
	tells(t, "a leaf", w, at[4000:4001], at[4000:4001], each, api.OK)
}
