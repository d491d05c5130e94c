package queue_test

import (
	"cmp"
	"slices"
	"testing"

	"dunnage/api"
	"dunnage/queue"
)

// What is pushed comes out, each once, in order: long runs against the plain queue.
func TestLongRuns(t *testing.T) {
	for seed := chance(1); seed <= 40; seed++ {
		c := seed * 7919
		ranks := 1 + c.next(40)
		x := newPair(byRank)
		most := 0
		for step := range 600 {
			switch k := c.next(20); {
			case k < 11:
				x.push(t, thing{c.next(ranks), step + 1})
			case k < 19:
				x.pop(t)
			default:
				x.leave(t, 1+c.next(3))
			}
			most = max(most, x.q.Len())
		}
		if most < 10 {
			t.Fatalf("a run with %d things at most shows little", most)
		}
		x.leave(t, 0)
	}
}

// noOrder is a less of which it is told only that each thing comes out once.
type noOrder struct {
	name string
	less func(a, b thing) bool
}

func strange() []noOrder {
	c := chance(3)
	return []noOrder{
		{"always", func(a, b thing) bool { return true }},
		{"not above", func(a, b thing) bool { return a.rank <= b.rank }},
		{"unlike", func(a, b thing) bool { return a.rank != b.rank }},
		{"round", func(a, b thing) bool { return (a.rank+1)%3 == b.rank%3 }},
		{"near ones alike", func(a, b thing) bool { return a.rank+2 < b.rank }},
		{"by chance", func(a, b thing) bool { return c.next(2) == 0 }},
		{"panics", func(a, b thing) bool { panic("no order") }},
		{"panics sometimes", func(a, b thing) bool { return 60/(a.rank-b.rank) > 7 }},
		{"panics by chance", func(a, b thing) bool { return [2]bool{true, false}[c.next(3)] }},
	}
}

func TestStrangeLess(t *testing.T) {
	for _, o := range strange() {
		name, q := o.name, queue.New(o.less)
		c := chance(17)
		in, out := 0, map[int]int{}
		took := func(v thing) {
			if out[v.name]++; v.name == 0 || v.name > in || out[v.name] != 1 {
				t.Fatalf("P8.1: less is %q: %v comes out the %d. time, of %d", name, v, out[v.name], in)
			}
		}
		for range 800 {
			if c.next(5) > 1 {
				in++
				if e := q.Push(thing{c.next(30), in}); e != api.OK {
					t.Fatalf("P8.1: less is %q: Push: error %d", name, e)
				}
			} else {
				first, was := q.Peek()
				v, is := q.Pop()
				if v != first || is != was || is != (in > len(out)) {
					t.Fatalf("P8.1: less is %q: Peek %v, %v, Pop %v, %v", name, first, was, v, is)
				}
				if is {
					took(v)
				}
			}
			if q.Len() != in-len(out) {
				t.Fatalf("P8.1: less is %q: Len %d, of %d in and %d out", name, q.Len(), in, len(out))
			}
		}
		if f := q.Fork(); f.Len() != q.Len() {
			t.Fatalf("P8.2: less is %q: a fork has %d things", name, f.Len())
		}
		for v := range q.Drain() {
			took(v)
		}
		if in < 400 || len(out) != in {
			t.Fatalf("P8.1: less is %q: %d came in, %d out", name, in, len(out))
		}
	}
}

func TestSortedByStrangeLess(t *testing.T) {
	l := make([]thing, 300)
	for i := range l {
		l[i] = thing{i * 37 % 50, i}
	}
	for _, o := range strange() {
		got := queue.Sorted(l, o.less)
		slices.SortFunc(got, func(a, b thing) int { return a.name - b.name })
		if !slices.Equal(got, l) {
			t.Errorf("P8.2: Sorted, less is %q: not the things of l, each once", o.name)
		}
	}
}

// R1: a less that takes things out of the queue that asks it makes no call panic, and each thing still comes out once.
func TestLessThatPops(t *testing.T) {
	var q *queue.Queue[thing]
	out := map[int]int{}
	take := func() {
		if v, is := q.Pop(); is {
			out[v.name]++
		}
	}
	c := chance(23)
	q = queue.New(func(a, b thing) bool {
		if c.next(10) == 0 {
			take()
		}
		return a.rank < b.rank
	})
	for i := 1; i <= 500; i++ {
		q.Push(thing{c.next(20), i})
		if c.next(4) == 0 {
			take()
		}
	}
	for q.Len() > 0 {
		take()
	}
	for i := 1; i <= 500; i++ {
		if out[i] != 1 {
			t.Fatalf("P8.1: thing %d comes out %d times", i, out[i])
		}
	}
}

// comesOut pushes l and asks whether it comes out as want.
func comesOut[T any](t *testing.T, kind string, l []T, less func(a, b T) bool, same func(a, b T) bool, want []T) {
	t.Helper()
	q := queue.New(less)
	for _, v := range l {
		q.Push(v)
	}
	if got := slices.Collect(q.Drain()); !slices.EqualFunc(got, want, same) {
		t.Errorf("P8.1: a queue of %s: %v; want %v", kind, got, want)
	}
	if got := queue.Sorted(l, less); !slices.EqualFunc(got, want, same) {
		t.Errorf("P8.2: Sorted of %s: %v; want %v", kind, got, want)
	}
}

// alike is == of what has it.
func alike[T comparable](a, b T) bool { return a == b }

// Queues of several kinds of things.
func TestKinds(t *testing.T) {
	comesOut(t, "bytes", []byte("queue"), cmp.Less[byte], alike, []byte("eequu"))
	comesOut(t, "texts", []string{"b", "", "ab", "a"}, cmp.Less[string], alike, []string{"", "a", "ab", "b"})
	comesOut(t, "floats", []float64{2.5, -1, 0, 1e9}, cmp.Less[float64], alike, []float64{-1, 0, 2.5, 1e9})
	comesOut(t, "bools", []bool{true, false, true}, func(a, b bool) bool { return !a && b }, alike, []bool{false, true, true})
	comesOut(t, "nothings", []struct{}{{}, {}, {}}, nil, alike, []struct{}{{}, {}, {}})
	comesOut(t, "arrays", [][2]int{{2, 1}, {1, 9}, {2, 0}}, func(a, b [2]int) bool { return a[0] < b[0] }, alike, [][2]int{{1, 9}, {2, 1}, {2, 0}})
	comesOut(t, "lists", [][]int{{3, 3}, nil, {1}}, func(a, b []int) bool { return len(a) < len(b) }, slices.Equal, [][]int{nil, {1}, {3, 3}})
	two, one := 2, 1
	comesOut(t, "pointers", []*int{&two, &one}, func(a, b *int) bool { return *a < *b }, alike, []*int{&one, &two})
	comesOut(t, "nil pointers", []*int{nil, &one, nil}, nil, alike, []*int{nil, &one, nil})
	comesOut(t, "anything", []any{"a", nil, 3}, func(a, b any) bool { return a == nil && b != nil }, alike, []any{nil, "a", 3})
	comesOut(t, "errors", []error{nil, nil}, nil, alike, []error{nil, nil})
	e := []api.Extent{{Serial: 5, At: 7, N: 2}, {Serial: 4, At: 3, N: 3}, {Serial: 9, N: 1}}
	comesOut(t, "extents", e, func(a, b api.Extent) bool { return a.At < b.At }, alike, []api.Extent{e[2], e[1], e[0]})
}

// A queue of queues, by their first things, and one of functions.
func TestQueueOfQueues(t *testing.T) {
	heads := queue.New(func(a, b *queue.Queue[int]) bool {
		x, _ := a.Peek()
		y, _ := b.Peek()
		return x < y
	})
	for _, l := range [][]int{{5, 8}, {1, 9, 3}, {2, 7}} {
		q := queue.New(cmp.Less[int])
		for _, v := range l {
			q.Push(v)
		}
		heads.Push(q)
	}
	var got []int
	for q := range heads.Drain() {
		v, _ := q.Pop()
		got = append(got, v)
		if q.Len() > 0 {
			heads.Push(q)
		}
	}
	if !slices.Equal(got, []int{1, 2, 3, 5, 7, 8, 9}) {
		t.Errorf("P8.1: a queue of queues: %v", got)
	}
	calls := queue.New[func() int](nil)
	calls.Push(func() int { return 4 })
	if f, is := calls.Pop(); !is || f() != 4 {
		t.Error("P8.1: a queue of functions")
	}
	if f, is := calls.Pop(); is || f != nil {
		t.Error("P8.1: Pop of none of functions")
	}
}
