package queue_test

import (
	"slices"
	"testing"

	"dunnage/api"
	"dunnage/queue"
)

// chance is a row of numbers that looks like none, and is the same in each run.
type chance uint64

func (c *chance) next(n int) int {
	*c ^= *c << 13
	*c ^= *c >> 7
	*c ^= *c << 17
	return int(uint64(*c) >> 11 % uint64(n))
}

// thing has a rank, by which it is held against others, and a name, by which alike ones are told apart.
type thing struct {
	rank int
	name int
}

// byRank is the less of most tests.
func byRank(a, b thing) bool { return a.rank < b.rank }

// plain is a queue by the chapter's words: the things in the order in which they were pushed.
type plain struct {
	less func(a, b thing) bool
	all  []thing
}

// first is the place of what no other thing is below, of several such of the one that was pushed first; -1 of none.
func (p *plain) first() int {
	for i, v := range p.all {
		below := func(o thing) bool { return p.less(o, v) }
		if !slices.ContainsFunc(p.all[:i], below) && !slices.ContainsFunc(p.all[i+1:], below) {
			return i
		}
	}
	return -1
}

func (p *plain) peek() (thing, bool) {
	if i := p.first(); i >= 0 {
		return p.all[i], true
	}
	return thing{}, false
}

func (p *plain) pop() (thing, bool) {
	v, is := p.peek()
	if is {
		i := p.first()
		p.all = slices.Delete(slices.Clone(p.all), i, i+1)
	}
	return v, is
}

func (p *plain) fork() *plain {
	return &plain{p.less, slices.Clone(p.all)}
}

// plainSorted is l by the chapter's words: what is popped one after the other.
func plainSorted(l []thing, less func(a, b thing) bool) []thing {
	p := plain{less, slices.Clone(l)}
	var sorted []thing
	for len(p.all) > 0 {
		v, _ := p.pop()
		sorted = append(sorted, v)
	}
	return sorted
}

// pair is a queue and what it should be.
type pair struct {
	q *queue.Queue[thing]
	p *plain
}

func newPair(less func(a, b thing) bool) pair {
	if less == nil {
		return pair{queue.New[thing](nil), &plain{less: func(a, b thing) bool { return false }}}
	}
	return pair{queue.New(less), &plain{less: less}}
}

func (x pair) fork() pair { return pair{x.q.Fork(), x.p.fork()} }

func (x pair) push(t *testing.T, v thing) {
	t.Helper()
	if e := x.q.Push(v); e != api.OK {
		t.Fatalf("P8.1: Push: error %d", e)
	}
	x.p.all = append(x.p.all, v)
	x.holds(t)
}

func (x pair) pop(t *testing.T) {
	t.Helper()
	ahead := slices.Clone(x.p.all)
	want, should := x.p.pop()
	if v, is := x.q.Pop(); v != want || is != should {
		t.Fatalf("P8.1: Pop of %v: %v, %v; want %v, %v", ahead, v, is, want, should)
	}
	x.holds(t)
}

// leave goes through Drain and leaves it behind n things; it goes to its end, if n is 0.
func (x pair) leave(t *testing.T, n int) {
	t.Helper()
	ahead := slices.Clone(x.p.all)
	var got, want []thing
	for v := range x.q.Drain() {
		got = append(got, v)
		if len(got) == n {
			break
		}
	}
	for len(x.p.all) > 0 && (n == 0 || len(want) < n) {
		v, _ := x.p.pop()
		want = append(want, v)
	}
	if !slices.Equal(got, want) {
		t.Fatalf("P8.2: Drain of %v, left behind %d: %v; want %v", ahead, n, got, want)
	}
	x.holds(t)
}

// holds asks what changes nothing, twice: a Peek that took something away would be seen.
func (x pair) holds(t *testing.T) {
	t.Helper()
	for range 2 {
		want, should := x.p.peek()
		if v, is := x.q.Peek(); v != want || is != should {
			t.Fatalf("P8.1: Peek of %v: %v, %v; want %v, %v", x.p.all, v, is, want, should)
		}
		if n := x.q.Len(); n != len(x.p.all) {
			t.Fatalf("P8.1: Len of %v: %d", x.p.all, n)
		}
	}
}

// permutations tells each order of 0 to n - 1.
func permutations(n int, tell func([]int)) {
	l := make([]int, 0, n)
	var more func()
	more = func() {
		if len(l) == n {
			tell(l)
			return
		}
		for i := range n {
			if !slices.Contains(l, i) {
				l = append(l, i)
				more()
				l = l[:len(l)-1]
			}
		}
	}
	more()
}
