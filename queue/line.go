package queue

import "container/heap"

// item is a thing and how many were pushed ahead of it: of alike things that says which comes first.
type item[T any] struct {
	v  T
	at uint64
}

// line is the things as the library's heap wants them.
type line[T any] struct {
	less   func(a, b T) bool
	items  []item[T]
	pushed uint64
}

// add guards itself against a less that panics: v is in the line by then, and swaps lose nothing.
func (l *line[T]) add(v T) {
	defer func() { _ = recover() }()
	it := item[T]{v: v, at: l.pushed}
	l.pushed++
	heap.Push(l, it)
}

// drop takes the first out ahead of asking less (heap.Pop asks first): so what less is asked of is in the line, and a less that panics keeps nothing from going.
func (l *line[T]) drop() {
	defer func() { _ = recover() }()
	l.Swap(0, l.Len()-1)
	l.Pop()
	heap.Fix(l, 0)
}

// Len is asked by the heap.
func (l *line[T]) Len() int { return len(l.items) }

// Less is asked by the heap. The earlier one comes first, unless the later is below it: one question is enough.
func (l *line[T]) Less(i, j int) bool {
	a, b := l.items[i], l.items[j]
	if l.less == nil {
		return a.at < b.at
	}
	if a.at < b.at {
		return !l.less(b.v, a.v)
	}
	return l.less(a.v, b.v)
}

// Swap is asked by the heap.
func (l *line[T]) Swap(i, j int) {
	l.items[i], l.items[j] = l.items[j], l.items[i]
}

// Push is asked by the heap.
func (l *line[T]) Push(x any) {
	if it, ok := x.(item[T]); ok {
		l.items = append(l.items, it)
	}
}

// Pop takes the last out, and forgets it: a thing that is gone is not kept.
func (l *line[T]) Pop() any {
	last := len(l.items) - 1
	it := l.items[last]
	l.items[last] = item[T]{}
	l.items = l.items[:last]
	return it
}
