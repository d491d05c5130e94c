package thread

import (
	"dunnage/api"
	"dunnage/cells"
)

// loom is the words of a heap and, behind them, its roots, so that a root is on a thread like any pointer. A thread begins where an object does, goes from one pointer to that object to the next, and ends with the object's head. A head needs all bits of a heap's word, so these words are wider.
type loom []uint64

// A word on a thread is a head, or the place of the next pointer, above one bit that tells which.
const (
	headBit = 1
	tagBits = 1
)

// step is what is done with an object that lives, on a way through all of them.
type step func(loom, api.Pos)

// newLoom has no threads yet, but a head that can be told from one at each object that lives. (What is dead is never on a thread: nothing that lives leads to it.)
func newLoom(w []uint32, roots []int, live []int) loom {
	l := make(loom, len(w)+len(roots))
	for i, v := range w {
		l[i] = uint64(v)
	}
	for i, at := range roots {
		l[len(w)+i] = uint64(at)
	}
	for _, at := range live {
		l[at] = l[at]<<tagBits | headBit
	}
	return l
}

// through takes all steps with an object ahead of the next object.
func (l loom) through(moved []api.Pos, steps ...step) {
	for _, p := range moved {
		for _, do := range steps {
			do(l, p)
		}
	}
}

// untie undoes an object's thread: each pointer on it becomes the object's new place, and the head comes back.
func (l loom) untie(p api.Pos) {
	v := l[p.From]
	for v&headBit == 0 {
		at := v >> tagBits
		v = l[at]
		l[at] = uint64(p.To)
	}
	l[p.From] = v
}

// tie takes an object's pointers onto threads. Those that lead back, or to itself, stay there until the next way through.
func (l loom) tie(p api.Pos) {
	l.tieAll(p.From+1, cells.Ptrs(l.head(p.From)))
}

// tieAll takes n pointers, from a place on, onto the threads of the objects that they lead to.
func (l loom) tieAll(from, n int) {
	for at := from; at < from+n; at++ {
		if to := l[at]; to != 0 {
			l[at], l[to] = l[to], uint64(at)<<tagBits
		}
	}
}

// slide takes an object to its new place, with its head as it was in the heap. What lives has left that place already.
func (l loom) slide(p api.Pos) {
	h := l.head(p.From)
	copy(l[p.To:], l[p.From:p.From+cells.Size(h)])
	l[p.To] = uint64(h)
}

// head is the head of an object whose thread has been undone.
func (l loom) head(at int) uint32 { return uint32(l[at] >> tagBits) }

// narrow is words that are on no thread any more, in new memory.
func narrow[T uint32 | int](l []uint64) []T {
	out := make([]T, len(l))
	for i, v := range l {
		out[i] = T(v)
	}
	return out
}
