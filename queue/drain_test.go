package queue_test

import (
	"slices"
	"testing"

	"dunnage/queue"
)

// filled is a queue of n things, three of each rank, and what it should be.
func filled(t *testing.T, n int, seed chance) pair {
	t.Helper()
	x := newPair(byRank)
	for i := range n {
		x.push(t, thing{seed.next(n/3 + 1), i + 1})
	}
	return x
}

// Who leaves Drain leaves the rest, wherever he leaves, and may go on by another Drain.
func TestDrainIsLeft(t *testing.T) {
	for n := range 14 {
		for at := range n + 2 {
			x := filled(t, n, 77)
			x.leave(t, at)
			x.push(t, thing{1, 100})
			x.leave(t, 2)
			x.leave(t, 0)
			x.leave(t, 0)
		}
	}
}

// One Drain, gone through again, tells what is left, and what came in since.
func TestDrainAgain(t *testing.T) {
	x := filled(t, 12, 31)
	drain := x.q.Drain()
	if x.q.Len() != 12 {
		t.Fatalf("P8.2: Drain pops ahead of being gone through: %d are left", x.q.Len())
	}
	for round := range 5 {
		told := 0
		for v := range drain {
			want, _ := x.p.pop()
			if v != want {
				t.Fatalf("P8.2: Drain, gone through again (round %d): %v; want %v", round, v, want)
			}
			x.holds(t)
			if told++; told == 4 {
				break
			}
		}
		if want := []int{4, 4, 4, 1, 0}[round]; told != want {
			t.Fatalf("P8.2: Drain, gone through again (round %d), tells %d things; want %d", round, told, want)
		}
		if round == 2 {
			x.push(t, thing{0, 50})
		}
	}
}

// It pops as it is gone through: what is pushed, popped or asked in the midst counts.
func TestDrainInTheMidst(t *testing.T) {
	c := chance(404)
	for range 60 {
		x := filled(t, 10, chance(c.next(1000)+1))
		step := 0
		for v := range x.q.Drain() {
			want, _ := x.p.pop()
			if v != want {
				t.Fatalf("P8.2: Drain with steps in its midst: %v; want %v", v, want)
			}
			x.holds(t)
			if step++; step > 40 {
				break
			}
			switch c.next(4) {
			case 0:
				x.pop(t)
			case 1:
				x.push(t, thing{c.next(6), 100 + step})
			case 2:
				x.fork().leave(t, 0)
			}
		}
		x.holds(t)
	}
}

// R6: it stops as soon as its function answers false, and asks it no more.
func TestDrainStops(t *testing.T) {
	for at := 1; at <= 9; at++ {
		x := filled(t, 9, 12)
		told := 0
		x.q.Drain()(func(v thing) bool {
			if told++; told > at {
				t.Fatalf("R6: Drain goes on behind false")
			}
			return told < at
		})
		if told != at || x.q.Len() != 9-at {
			t.Errorf("P8.2: Drain left at %d: %d told, %d left", at, told, x.q.Len())
		}
	}
}

// A fork is alike in all: also in which of alike things comes first, of those that come later too.
func TestForkIsAlike(t *testing.T) {
	c := chance(2026)
	for range 200 {
		a := newPair(byRank)
		steps(t, &c, a, 30)
		b := a.fork()
		b.holds(t)
		for step := range 20 {
			if v := (thing{c.next(4), 1000 + step}); c.next(3) > 0 {
				a.push(t, v)
				b.push(t, v)
			} else {
				a.pop(t)
				b.pop(t)
			}
		}
		if !slices.Equal(slices.Collect(a.q.Drain()), slices.Collect(b.q.Drain())) {
			t.Fatal("P8.2: a fork on which the same is done tells something else")
		}
	}
}

// Neither queue knows of the other behind a Fork, nor forks of forks.
func TestForksGoTheirWays(t *testing.T) {
	c := chance(99)
	all := []pair{newPair(byRank)}
	for step := range 3000 {
		x := all[c.next(len(all))]
		switch k := c.next(10); {
		case k < 5:
			x.push(t, thing{c.next(6), step + 1})
		case k < 8:
			x.pop(t)
		case k == 8:
			x.leave(t, 1+c.next(3))
		case len(all) < 12:
			all = append(all, x.fork())
		}
		if step%50 == 0 {
			for _, y := range all {
				y.holds(t)
			}
		}
	}
	if len(all) != 12 {
		t.Fatalf("the run makes %d queues", len(all))
	}
	for _, x := range all {
		x.leave(t, 0)
	}
}

// A fork of a queue without a less, and of an empty one, is one that works.
func TestForkOfLittle(t *testing.T) {
	for _, q := range []*queue.Queue[thing]{queue.New[thing](nil), queue.New(byRank), new(queue.Queue[thing])} {
		f := q.Fork()
		if f == nil || f == q {
			t.Fatal("P8.2: Fork answers no other queue")
		}
		f.Push(thing{1, 1})
		if q.Len() != 0 || f.Len() != 1 {
			t.Errorf("P8.2: what comes into a fork: %d there, %d here", q.Len(), f.Len())
		}
		q.Push(thing{1, 2})
		if v, is := f.Peek(); v != (thing{1, 1}) || !is {
			t.Errorf("P8.2: the fork's first is %v", v)
		}
	}
}

// steps pushes and pops by chance.
func steps(t *testing.T, c *chance, x pair, n int) {
	t.Helper()
	for range n {
		if c.next(3) > 0 {
			x.push(t, thing{c.next(4), c.next(1 << 20)})
		} else {
			x.pop(t)
		}
	}
}
