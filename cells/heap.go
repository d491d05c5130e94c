package cells

import (
	"iter"

	"dunnage/api"
)

// The bits at which the parts of a head begin: it is eight digits of four bits, from the lowest on one for the kind, two for the pointers, five for the size.
const (
	kindAt = 4 * iota
	ptrsAt
	_ // the pointers' second digit
	sizeAt
)

// How many kinds, counts of pointers, and sizes a head can tell.
const (
	kinds     = 1 << (ptrsAt - kindAt)
	ptrCounts = 1 << (sizeAt - ptrsAt)
	sizes     = 1 << (32 - sizeAt)
)

// first is the place of the first object: ahead of it stands word 0 alone.
const first = 1

// objects tells places and heads of w as it stands, without a copy: for callers that go through it at once.
func objects(w []uint32) iter.Seq2[int, uint32] {
	return func(yield func(int, uint32) bool) {
		for at := first; at < len(w); {
			h := w[at]
			if !isHead(h, len(w)-at) || !yield(at, h) {
				return
			}
			at += Size(h)
		}
	}
}

// isHead: may h be the head of an object, where so many words are left for it? (A size above its pointers is no less than 1, so who goes on by sizes comes to an end.)
func isHead(h uint32, left int) bool {
	return Size(h) > Ptrs(h) && Size(h) <= left
}

// object is what its head and the words behind the head say, in new memory.
func object(h uint32, words []uint32) api.Object {
	o := api.Object{Kind: Kind(h)}
	for _, p := range words[:Ptrs(h)] {
		o.Ptrs = append(o.Ptrs, int(p))
	}
	o.Data = append(o.Data, words[Ptrs(h):]...)
	return o
}

// places says of each word of a heap whether an object begins there.
type places []bool

// placesOf is the places of w's objects, and whether these go up to its end.
func placesOf(w []uint32) (places, bool) {
	heap := make(places, len(w))
	end := first
	for at, h := range objects(w) {
		heap[at] = true
		end = at + Size(h)
	}
	return heap, end == len(w)
}

// has: is at none (0), or an object's place?
func (p places) has(at int) bool {
	return at == 0 || at > 0 && at < len(p) && p[at]
}

func (p places) hasAll(list []int) bool {
	for _, at := range list {
		if !p.has(at) {
			return false
		}
	}
	return true
}

// hasPointers: is each pointer of w's objects one that may be?
func (p places) hasPointers(w []uint32) bool {
	for at, h := range objects(w) {
		for _, to := range w[at+1 : at+1+Ptrs(h)] {
			if !p.has(int(to)) {
				return false
			}
		}
	}
	return true
}
