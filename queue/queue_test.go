package queue_test

import (
	"slices"
	"testing"

	"dunnage/api"
	"dunnage/queue"
)

// The chapter's example.
func TestExample(t *testing.T) {
	q := queue.New(func(a, b string) bool { return a[0] < b[0] })
	for _, s := range []string{"bob", "ann", "al"} {
		if e := q.Push(s); e != api.OK {
			t.Fatalf("P8.1: Push(%s): error %d", s, e)
		}
	}
	for _, want := range []string{"ann", "al", "bob"} {
		if s, is := q.Pop(); s != want || !is {
			t.Errorf("P8.1: Pop: %q, %v; want %q", s, is, want)
		}
	}
	if got := queue.Sorted([]int{3, 1, 2}, func(a, b int) bool { return a < b }); !slices.Equal(got, []int{1, 2, 3}) {
		t.Errorf("P8.2: Sorted([3 1 2]): %v", got)
	}
}

func TestNewIsEmpty(t *testing.T) {
	for _, q := range []*queue.Queue[thing]{queue.New(byRank), queue.New[thing](nil), new(queue.Queue[thing])} {
		if q == nil {
			t.Fatal("P8.1: New: nil")
		}
		if q.Len() != 0 {
			t.Errorf("P8.1: Len of a new queue: %d", q.Len())
		}
		if v, is := q.Peek(); v != (thing{}) || is {
			t.Errorf("P8.1: Peek of none: %v, %v", v, is)
		}
		if v, is := q.Pop(); v != (thing{}) || is {
			t.Errorf("P8.1: Pop of none: %v, %v", v, is)
		}
		for v := range q.Drain() {
			t.Errorf("P8.2: Drain of none tells %v", v)
		}
	}
}

// What was popped last is not told again of a queue that is empty behind it.
func TestPopOfNoneBehindThings(t *testing.T) {
	q := queue.New(byRank)
	for round := range 3 {
		for i := range 4 {
			q.Push(thing{9 - i, i + 1})
		}
		for q.Len() > 0 {
			q.Pop()
		}
		v, is := q.Peek()
		w, was := q.Pop()
		if v != (thing{}) || is || w != (thing{}) || was {
			t.Fatalf("P8.1: round %d: Peek and Pop of none: %v, %v; %v, %v", round, v, is, w, was)
		}
	}
}

// Each run of seven steps: a thing of one of three ranks is pushed, or one is popped.
func TestAllShortRuns(t *testing.T) {
	const steps, kinds = 7, 4
	runs := 1
	for range steps {
		runs *= kinds
	}
	for run := range runs {
		x := newPair(byRank)
		for step, left := 0, run; step < steps; step, left = step+1, left/kinds {
			if rank := left % kinds; rank < 3 {
				x.push(t, thing{rank, step + 1})
			} else {
				x.pop(t)
			}
		}
		x.leave(t, 0)
	}
}

// Each order in which seven things come in, with alike ones among them.
func TestAllOrders(t *testing.T) {
	for _, ranks := range [][]int{{0, 1, 2, 3, 4, 5, 6}, {0, 0, 1, 1, 2, 2, 3}, {0, 0, 0, 0, 1, 1, 1}, {5, 5, 5, 5, 5, 5, 5}} {
		permutations(len(ranks), func(order []int) {
			x := newPair(byRank)
			for _, i := range order {
				x.push(t, thing{ranks[i], i})
			}
			x.leave(t, 0)
		})
	}
}

// nil: nothing is below anything, so what was pushed first comes first.
func TestNilLess(t *testing.T) {
	c := chance(8)
	x := newPair(nil)
	zero := pair{new(queue.Queue[thing]), newPair(nil).p}
	for step := range 400 {
		if c.next(3) > 0 {
			v := thing{c.next(50), step}
			x.push(t, v)
			zero.push(t, v)
		} else {
			x.pop(t)
			zero.pop(t)
		}
	}
	if x.q.Len() < 50 {
		t.Fatalf("the run leaves %d things: it shows little", x.q.Len())
	}
	x.leave(t, 0)
	zero.leave(t, 0)
}

// less is asked of things in the queue alone: of none that is yet to come, of none that is gone, of no zero thing.
func TestLessIsAskedOfWhatIsThere(t *testing.T) {
	there := map[int]int{}
	asked := 0
	less := func(a, b thing) bool {
		asked++
		if there[a.name] == 0 || there[b.name] == 0 {
			t.Fatalf("P8.1: less is asked of %v and %v, which are not both in the queue", a, b)
		}
		return a.rank < b.rank
	}
	q := queue.New(less)
	c := chance(81)
	for name := 1; name <= 3000; name++ {
		if c.next(5) > 1 {
			there[name] = 1
			q.Push(thing{c.next(20) + 1, name})
		} else if v, is := q.Pop(); is {
			delete(there, v.name)
		}
	}
	for v := range q.Drain() {
		delete(there, v.name)
	}
	if asked < 3000 || len(there) != 0 {
		t.Errorf("less was asked %d times, %d things are left", asked, len(there))
	}
}

// A queue asks its own less, and none but its own things come to it.
func TestQueuesDoNotMix(t *testing.T) {
	up := newPair(byRank)
	down := newPair(func(a, b thing) bool { return a.rank > b.rank })
	c := chance(5)
	for step := range 500 {
		x := []pair{up, down}[c.next(2)]
		if c.next(3) > 0 {
			x.push(t, thing{c.next(9), step})
		} else {
			x.pop(t)
		}
	}
	up.leave(t, 0)
	down.leave(t, 0)
}

// A nil queue, of several kinds of things.
func TestNilQueue(t *testing.T) {
	var none *queue.Queue[thing]
	if e := none.Push(thing{1, 1}); e != api.ErrNil {
		t.Errorf("P8.1: Push on nil: error %d; want ErrNil", e)
	}
	if v, is := none.Pop(); v != (thing{}) || is {
		t.Errorf("P8.2: Pop of nil: %v, %v", v, is)
	}
	if v, is := none.Peek(); v != (thing{}) || is {
		t.Errorf("P8.2: Peek of nil: %v, %v", v, is)
	}
	if none.Len() != 0 || none.Fork() != nil {
		t.Error("P8.2: Len or Fork of nil")
	}
	drain := none.Drain()
	if drain == nil {
		t.Fatal("R6: Drain of nil is nil")
	}
	for range 2 {
		for v := range drain {
			t.Errorf("P8.2: Drain of nil tells %v", v)
		}
	}
	var pointers *queue.Queue[*int]
	if v, is := pointers.Pop(); v != nil || is || pointers.Push(new(int)) != api.ErrNil {
		t.Error("P8.2: a nil queue of pointers")
	}
}
