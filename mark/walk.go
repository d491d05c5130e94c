package mark

import (
	"dunnage/cells"
)

// none is what a root or a pointer to no object is.
const none = 0

// walk is a way through the objects of a heap.
type walk struct {
	w    []uint32
	seen map[int]int // the sizes of the objects that were met, by their places
	open []int       // those of them whose pointers are still to be looked at; used from its end
}

// living is the sizes of all objects that live, by their places. What is handed in has passed cells.Check: so each place has a head, and its pointers behind it.
func living(w []uint32, roots []int) map[int]int {
	l := walk{w: w, seen: map[int]int{}}
	for _, at := range roots {
		l.meet(at)
	}
	for len(l.open) > 0 {
		for _, to := range l.pointers(l.next()) {
			l.meet(int(to))
		}
	}
	return l.seen
}

// meet notes an object the first time only: so each is looked at once, and a way round comes to an end.
func (l *walk) meet(at int) {
	if _, met := l.seen[at]; met || at == none {
		return
	}
	l.seen[at] = cells.Size(l.w[at])
	l.open = append(l.open, at)
}

// next takes the last of what is open.
func (l *walk) next() int {
	end := len(l.open) - 1
	at := l.open[end]
	l.open = l.open[:end]
	return at
}

func (l *walk) pointers(at int) []uint32 {
	return l.w[at+1 : at+1+cells.Ptrs(l.w[at])]
}
