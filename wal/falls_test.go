package wal_test

import (
	"bytes"
	"testing"

	"dunnage/api"
	"dunnage/disk"
	"dunnage/wal"
)

// had is a record of a log, its age, and the turn at which it begins.
type had struct {
	record    []byte
	age, turn uint64
}

// chain is logs opened on one disk one behind the other, and what P7.4 lets the next one tell.
type chain struct {
	t     *testing.T
	d     *disk.Disk
	w     *wal.Log
	age   uint64
	has   []had  // what the log has, from its First on
	sure  int    // so many of them are kept by now
	under *had   // an Append that was answered with ErrDown
	next  uint64 // Next, as it should be
	fell  bool   // since the last opening
}

func newChain(t *testing.T) *chain {
	t.Helper()
	c := &chain{t: t, age: 1}
	c.d, _ = device(t, 256)
	c.w, _ = mustOpen(t, "P7.4: the first log", c.d, 0, 0, 1)
	return c
}

// fork is the chain as it is, on a disk of its own: the log is opened anew there, so nothing may wait.
func (c *chain) fork() *chain {
	c.t.Helper()
	f := *c
	f.d = c.d.Fork()
	f.has = append([]had{}, c.has...)
	f.reopen(1)
	return &f
}

func (c *chain) append(n, seed int) api.Errno {
	c.t.Helper()
	h := had{bytesOf(n, seed), c.age, c.next}
	free := c.w.Left() >= sectorsOf(n)
	e := c.w.Append(h.record)
	switch {
	case e == api.OK && free:
		c.has = append(c.has, h)
		c.next += uint64(sectorsOf(n))
	case e == api.ErrDown && c.d.Down():
		if c.under == nil && !c.fell {
			c.under = &h
		}
		c.fell = true
	case e != api.ErrFull || free:
		c.t.Fatalf("P7.2: Append of %d bytes: error %d", n, e)
	}
	c.holds()
	return e
}

func (c *chain) sync() api.Errno {
	c.t.Helper()
	e := c.w.Sync()
	switch {
	case e == api.OK && !c.fell:
		c.sure = len(c.has)
	case e == api.ErrDown && c.d.Down():
		c.fell = true
	default:
		c.t.Fatalf("P7.2: Sync: error %d", e)
	}
	c.holds()
	return e
}

// free frees the first n records.
func (c *chain) free(n int) {
	c.t.Helper()
	to := c.next
	if n < len(c.has) {
		to = c.has[n].turn
	}
	answers(c.t, "P7.2: Free", c.w.Free(to), api.OK)
	c.has = c.has[n:]
	c.sure = max(c.sure-n, 0)
	c.holds()
}

// fall takes the disk down, of what waits keeps what keep says, and opens the log anew.
func (c *chain) fall(keep ...bool) {
	c.t.Helper()
	c.d.Crash(keep...)
	c.d.Start()
	c.fell = true
	c.reopen(1)
}

// reopen opens the log behind this one, some ages later, and holds P7.4.
func (c *chain) reopen(ages uint64) {
	c.t.Helper()
	first, least := c.w.First(), c.w.Least()
	c.age += ages
	w, records := mustOpen(c.t, "P7.4", c.d, first, least, c.age)
	may := c.has
	if c.under != nil {
		may = append(may, *c.under)
	}
	if len(records) < c.sure || len(records) > len(may) || !c.fell && len(records) != len(may) {
		c.t.Fatalf("P7.4: the log of the age %d tells %d records of %d, %d of which are kept", c.age, len(records), len(may), c.sure)
	}
	for i, r := range records {
		if !bytes.Equal(r, may[i].record) {
			c.t.Fatalf("P7.4: the log of the age %d tells %d bytes as record %d; %d other ones were appended", c.age, len(r), i, len(may[i].record))
		}
	}
	c.w, c.has, c.under = w, may[:len(records):len(records)], nil
	if c.fell { // nothing waits any more: what is there stays
		c.sure = len(records)
	}
	c.next, c.fell = first, false
	for _, h := range c.has {
		c.next += uint64(sectorsOf(len(h.record)))
	}
	c.holds()
}

// holds holds what the log tells of itself.
func (c *chain) holds() {
	c.t.Helper()
	first, least := c.next, c.age
	if len(c.has) > 0 {
		first, least = c.has[0].turn, c.has[0].age
	}
	stands(c.t, "P7.3: in a chain of logs", c.w, first, c.next, least, ring-int(c.next-first))
}

// choice is the bits of k, from the lowest on, as what is kept of n writes.
func choice(k, n int) []bool {
	keep := make([]bool, n)
	for i := range keep {
		keep[i] = k>>i&1 == 1
	}
	return keep
}

// Records of one to three sectors, a Sync behind so many of them, and each choice of what is kept of the others; behind each of these a second log, each choice of what is kept of its writes, and a third one.
func TestEachChoiceOfWhatIsKept(t *testing.T) {
	sizes := []int{3, 500, 0, 1000}
	waits := []int{7, 6, 4, 3, 0}
	for synced := range len(sizes) + 1 {
		for k := range 1 << waits[synced] {
			c := newChain(t)
			for i, n := range sizes {
				if i == synced {
					c.sync()
				}
				c.append(n, i)
			}
			if synced == len(sizes) {
				c.sync()
			}
			c.fall(choice(k, waits[synced])...)
			holdSecondLog(c, k)
		}
	}
}

// holdSecondLog goes on behind a fall: whatever it left must not come back among what is appended now.
func holdSecondLog(c *chain, seed int) {
	c.t.Helper()
	for k := range 1 << 3 {
		f := c.fork()
		f.append(441, seed+5)
		f.append(9, seed+6)
		f.fall(choice(k, 3)...)
		f.append(10, seed+7)
		f.sync()
		f.append(11, seed+8)
		f.fall()
		f.append(880, seed+9)
		f.reopen(3)
		f.fall(true, true)
	}
}

// What is stale lies behind what is new, at each distance, and is not told: it is older than the record ahead.
func TestStaleRecordsDoNotComeBack(t *testing.T) {
	for count := 1; count < ring; count++ {
		for read := range count {
			c := newChain(t)
			for i := range count {
				c.append(i, i)
			}
			keep := choice(-1, count)
			keep[read] = false
			c.fall(keep...)
			if len(c.has) != read {
				t.Fatalf("P7.4: %d records of %d, where record %d is lost", len(c.has), count, read)
			}
			c.append(77, 77)
			c.sync()
			c.fall()
			if len(c.has) != read+1 {
				t.Fatalf("P7.4: %d records; want %d", len(c.has), read+1)
			}
			c.free(read + 1)
			c.fall()
		}
	}
}

// A fall at each write and Flush of a run, with all, none, the odd and the even ones of what waits kept.
func TestFallAtEachWrite(t *testing.T) {
	for hit := 1; hit <= 30; hit++ {
		for kept := range 4 {
			c := newChain(t)
			c.append(900, 1)
			c.sync()
			c.d.Arm(hit)
			for i, n := range []int{1, 900, 440, 441, 0, 2000, 8192 / 2} {
				c.append(n, i)
				if i%2 == 1 {
					c.sync()
				}
			}
			keep := make([]bool, 40)
			for i := range keep {
				keep[i] = kept>>(i%2)&1 == 1
			}
			c.fall(keep...)
			c.append(5, 5)
			c.sync()
			c.fall()
		}
	}
}

// An Append that falls at its last write is there behind a fall that keeps all of it, and not there, if any of it is lost.
func TestAppendUnderWay(t *testing.T) {
	for _, n := range []int{0, 440, 441, 1000, 2000} {
		of := sectorsOf(n)
		for hit := 1; hit <= of; hit++ {
			for k := range 1 << of {
				c := newChain(t)
				c.append(4, 4)
				c.sync()
				c.d.Arm(hit)
				answers(t, "P7.2: Append that falls", c.append(n, 1), api.ErrDown)
				c.fall(choice(k, of)...)
				want := 1
				if hit == of && k == 1<<of-1 {
					want = 2
				}
				if len(c.has) != want {
					t.Errorf("P7.4: an Append of %d sectors that falls at %d, %b kept: %d records; want %d", of, hit, k, len(c.has), want)
				}
				c.append(900, 2)
				c.sync()
				c.fall()
			}
		}
	}
}

// step does one thing of a long run.
func (c *chain) step(pick func(n int) int) {
	c.t.Helper()
	switch pick(16) {
	case 0, 1, 2, 3, 4, 5, 6:
		c.append([]int{0, 1, 100, 440, 441, 880, 900, 3000, 8192}[pick(9)], pick(1000))
	case 7, 8:
		c.sync()
	case 9, 10:
		c.free(pick(len(c.has) + 1))
	case 11:
		c.free(len(c.has))
	case 12:
		if !c.d.Down() {
			c.d.Arm(1 + pick(6))
		}
	case 13:
		if !c.d.Down() {
			c.reopen(uint64(1 + pick(3)))
		}
	default:
		k := pick(1 << 20)
		switch pick(4) {
		case 0:
			k = 0
		case 1:
			k = -1
		}
		c.fall(choice(k, 40)...)
	}
}

// Round by round of the ring, with falls at any step, and whatever is kept.
func TestLongRuns(t *testing.T) {
	rounds, ages := uint64(0), uint64(0)
	for seed := range uint32(150) {
		c := newChain(t)
		pick := chance(seed)
		for range 400 {
			c.step(pick)
		}
		rounds, ages = rounds+c.next/ring, ages+c.age
	}
	if rounds < 1000 || ages < 10000 {
		t.Errorf("%d rounds, %d ages: too few of one to tell", rounds, ages)
	}
}

// Without falls, round by round, for each length: what is appended and not freed is told.
func TestRoundsWithoutFalls(t *testing.T) {
	for _, n := range lengths() {
		c := newChain(t)
		for i := range 6 * ring {
			if c.append(n, i) == api.ErrFull {
				c.reopen(1)
				c.sync()
				c.free(1 + i%len(c.has))
			}
		}
		c.sync()
		c.fall()
		if c.next < 3*ring {
			t.Errorf("records of %d bytes: Next %d", n, c.next)
		}
	}
}
