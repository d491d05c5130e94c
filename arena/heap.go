package arena

import (
	"slices"

	"dunnage/api"
	"dunnage/cells"
)

// none is what a root or a pointer to no object is.
const none = 0

// heap is words as chapter 13 has them, and the roots that keep its objects.
type heap struct {
	words []uint32
	heads []bool // of each word: is it a head? (Else all words ahead of a place would have to be gone through to tell.)
	roots []int
}

// empty is the words of a heap without objects.
func empty() []uint32 { return []uint32{0} }

func noRoots() []int { return make([]int, api.MaxRoots) }

// newHeap keeps the words and the roots that it is given.
func newHeap(words []uint32, roots []int) *heap {
	h := &heap{words: words, heads: make([]bool, len(words)), roots: roots}
	for at := range cells.All(words) {
		h.heads[at] = true
	}
	return h
}

// has: is at the place of an object?
func (h *heap) has(at int) bool {
	return at >= 0 && at < len(h.heads) && h.heads[at]
}

// add lays an object behind all others, and is its place.
func (h *heap) add(head uint32, ptrs []int, data []uint32) int {
	at := len(h.words)
	h.words = append(h.words, head)
	for _, to := range ptrs {
		h.words = append(h.words, uint32(to))
	}
	h.words = append(h.words, data...)
	h.heads = append(h.heads, make([]bool, len(h.words)-at)...)
	h.heads[at] = true
	return at
}

// data is the other words of an object, as they stand in the heap.
func (h *heap) data(at int) []uint32 {
	head := h.words[at]
	return h.words[at+1+cells.Ptrs(head) : at+cells.Size(head)]
}

func (h *heap) fork() *heap {
	return &heap{slices.Clone(h.words), slices.Clone(h.heads), slices.Clone(h.roots)}
}

// object is what stands at an object's place. It is read as the first one of the words from there on: what is ahead of it plays no part.
func object(words []uint32, at int) api.Object {
	o, _ := cells.At(words[at-1:], 1)
	return o
}
