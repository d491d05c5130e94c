package merge

import (
	"iter"
	"slices"

	"dunnage/api"
	"dunnage/keys"
	"dunnage/queue"
)

// head is where a list is gone through: the list's number, and the entries that are left of it, one at least.
type head struct {
	of   int
	left []api.Entry
}

func (h head) entry() api.Entry { return h.left[0] }

func (h head) key() string { return h.entry().Key }

// below: does a come ahead of b? Of one key the first list's comes first. (The queue would take the one that was pushed first, which says nothing of the lists.)
func below(a, b head) bool {
	if a.key() == b.key() {
		return a.of < b.of
	}
	return keys.Less(a.key(), b.key())
}

// begin is the heads of all lists, or why they may not be merged. Its entries are copies: sequences tell what was there when they were asked for.
func begin(lists [][]api.Entry) (*queue.Queue[head], api.Errno) {
	if len(lists) > api.MaxLists {
		return nil, api.ErrLarge
	}
	heads := queue.New(below)
	for of, l := range lists {
		if e := Check(l); e != api.OK {
			return nil, e
		}
		push(heads, head{of: of, left: slices.Clone(l)})
	}
	return heads, api.OK
}

// push leaves a list out that is at its end.
func push(heads *queue.Queue[head], h head) {
	if len(h.left) > 0 {
		heads.Push(h)
	}
}

// rows tells, by rising keys, all heads that stand at a key, by rising lists. Each going through has a fork of its own: so the next one begins at the first key again.
func rows(start *queue.Queue[head]) iter.Seq[[]head] {
	return func(yield func([]head) bool) {
		heads := start.Fork()
		for heads.Len() > 0 {
			row := least(heads)
			if !yield(row) {
				return
			}
			for _, h := range row {
				push(heads, head{of: h.of, left: h.left[1:]})
			}
		}
	}
}

// least takes out all heads of the least key.
func least(heads *queue.Queue[head]) []head {
	var row []head
	for h, is := heads.Peek(); is && (len(row) == 0 || h.key() == row[0].key()); h, is = heads.Peek() {
		row = append(row, h)
		heads.Pop()
	}
	return row
}
