package disk_test

import (
	"math"
	"slices"
	"testing"

	"dunnage/api"
	"dunnage/disk"
)

// Behind Arm(n) the first n - 1 are done, and the n-th, Write or Flush, is hit.
func TestArmCountsWritesAndFlushes(t *testing.T) {
	for n := 1; n <= 6; n++ {
		for kinds := range 1 << 6 { // bit i: the i-th is a Flush
			d := mustNew(t, 2)
			answers(t, "P4.3: Arm", d.Arm(n), api.OK)
			waiting := 0
			for i := range 6 {
				flush := kinds>>i&1 == 1
				want := api.OK
				if i+1 >= n {
					want = api.ErrDown
				}
				switch {
				case flush:
					answers(t, "P4.3: Flush behind Arm", d.Flush(), want)
				default:
					answers(t, "P4.3: Write behind Arm", d.Write(i%2, odd(i)), want)
				}
				switch {
				case i+1 > n:
				case flush && i+1 < n:
					waiting = 0
				case !flush:
					waiting++
				}
				stands(t, "P4.3: behind Arm", d, i+1 >= n, waiting, 0)
			}
		}
	}
}

// A Flush that is hit keeps nothing; a Write that is hit waits: both may be kept, or lost, by the Crash behind it.
func TestWhatIsHit(t *testing.T) {
	d := mustNew(t, 2)
	d.Write(0, odd(1))
	d.Arm(1)
	onFlush, onWrite := d.Fork(), d.Fork()
	answers(t, "P4.3: Flush that is hit", onFlush.Flush(), api.ErrDown)
	stands(t, "P4.3: Flush that is hit", onFlush, true, 1, 0)
	answers(t, "P4.3: Write that is hit", onWrite.Write(1, odd(2)), api.ErrDown)
	stands(t, "P4.3: Write that is hit", onWrite, true, 2, 0)

	lost := onFlush.Fork()
	lost.Start()
	shows(t, "P4.3: a Flush that is hit, and what waits is lost", lost, 0, full(0))
	onFlush.Crash(true)
	onFlush.Start()
	shows(t, "P4.3: a Flush that is hit, and what waits is kept", onFlush, 0, odd(1))

	lost = onWrite.Fork()
	lost.Start()
	shows(t, "P4.3: a Write that is hit, and what waits is lost", lost, 0, full(0))
	shows(t, "P4.3: a Write that is hit, and what waits is lost", lost, 1, full(0))
	onWrite.Crash(false, true)
	onWrite.Start()
	shows(t, "P4.3: a Write that is hit is kept", onWrite, 0, full(0))
	shows(t, "P4.3: a Write that is hit is kept", onWrite, 1, odd(2))
}

// Only what would be done is counted: not what is refused, not Read, Flip, Fork, or a Start of what is up.
func TestArmCountsNothingElse(t *testing.T) {
	d := mustNew(t, 2)
	d.Arm(2)
	for range 5 {
		d.Write(2, full(1))
		d.Write(-1, full(1))
		d.Write(0, full(1)[:511])
		d.Write(0, nil)
		d.Read(0)
		d.Flip(0, 0)
		d.Start()
		d.Size()
		d.Waiting()
		d.Fork().Write(0, full(1))
	}
	stands(t, "P4.3: refused Writes", d, false, 0, 5)
	answers(t, "P4.3: the first that would be done", d.Write(0, full(1)), api.OK)
	answers(t, "P4.3: a refused Write is not hit", d.Write(2, full(1)), api.ErrArg)
	stands(t, "P4.3: a refused Write is not hit", d, false, 1, 5)
	answers(t, "P4.3: the second that would be done", d.Write(0, full(1)), api.ErrDown)
}

func TestArmBelowOne(t *testing.T) {
	for _, n := range []int{math.MinInt, -2, -1, 0, 1 << 40, math.MaxInt} {
		d := mustNew(t, 1)
		answers(t, "P4.3: Arm", d.Arm(1), api.OK)
		answers(t, "P4.3: Arm", d.Arm(n), api.OK)
		for i := range 600 {
			answers(t, "P4.3: none of these is hit: Write", d.Write(0, full(byte(i))), api.OK)
			answers(t, "P4.3: none of these is hit: Flush", d.Flush(), api.OK)
		}
		stands(t, "P4.3: none is hit", d, false, 0, 0)
	}
}

func TestLaterArm(t *testing.T) {
	for first := range 4 {
		for done := range 3 {
			for second := range 4 {
				d := mustNew(t, 1)
				d.Arm(first)
				for range done {
					d.Flush()
				}
				if d.Down() {
					continue
				}
				answers(t, "P4.3: a later Arm", d.Arm(second), api.OK)
				for i := 1; i <= 5; i++ {
					d.Flush()
					if d.Down() != (second > 0 && i >= second) {
						t.Errorf("P4.3: Arm(%d), %d Flushes, Arm(%d), %d Flushes: Down %v", first, done, second, i, d.Down())
					}
				}
			}
		}
	}
}

// Start arms none: what was armed ahead of a fall is not hit behind it. A disk that is up stays armed.
func TestStartArmsNone(t *testing.T) {
	d := mustNew(t, 1)
	d.Arm(3)
	d.Flush()
	d.Crash()
	d.Start()
	for range 9 {
		answers(t, "P4.3: Flush behind Start", d.Flush(), api.OK)
	}
	d.Arm(1)
	d.Write(0, full(1))
	d.Start()
	for range 9 {
		answers(t, "P4.3: Write behind a hit and Start", d.Write(0, full(2)), api.OK)
	}
	d.Arm(2)
	d.Start()
	answers(t, "P4.4: Start of a disk that is up changes nothing: the first", d.Flush(), api.OK)
	d.Start()
	answers(t, "P4.4: Start of a disk that is up changes nothing: the second", d.Flush(), api.ErrDown)
}

func TestStartOfWhatIsUp(t *testing.T) {
	d := mustNew(t, 2)
	answers(t, "P4.4: Start of a new disk", d.Start(), api.OK)
	d.Write(0, odd(1))
	d.Flush()
	d.Write(1, odd(2))
	answers(t, "P4.4: Start of a disk that is up", d.Start(), api.OK)
	stands(t, "P4.4: Start of a disk that is up", d, false, 1, 0)
	shows(t, "P4.4: Start of a disk that is up", d, 0, odd(1))
	shows(t, "P4.4: Start of a disk that is up", d, 1, odd(2))
	d.Flush()
	d.Crash()
	d.Start()
	shows(t, "P4.4: what waited ahead of a Start that changed nothing is kept by a Flush", d, 1, odd(2))
}

// Any choice, of any length, of what is kept of five writes to three sectors.
func TestAnyChoiceIsKept(t *testing.T) {
	to := []int{0, 1, 0, 2, 1}
	start := mustNew(t, 3)
	for at := range 3 {
		start.Write(at, odd(100+at))
	}
	start.Flush()
	for i, at := range to {
		start.Write(at, odd(i))
	}
	for n := range 8 {
		for bits := range 1 << n {
			keep := make([]bool, n)
			want := []int{100, 101, 102}
			for i := range keep {
				keep[i] = bits>>i&1 == 1
				if keep[i] && i < len(to) {
					want[to[i]] = i
				}
			}
			given := slices.Clone(keep)
			d := start.Fork()
			answers(t, "P4.4: Crash", d.Crash(keep...), api.OK)
			stands(t, "P4.4: Crash", d, true, 0, 0)
			if !slices.Equal(keep, given) {
				t.Fatalf("R3: Crash(%v) wrote into what it was given", given)
			}
			answers(t, "P4.4: Start", d.Start(), api.OK)
			stands(t, "P4.4: Start", d, false, 0, 0)
			for at, v := range want {
				b, _ := d.Read(at)
				if !slices.Equal(b, odd(v)) {
					t.Errorf("P4.4: Crash(%v): the sector %d: %x; want %x", keep, at, b[:4], odd(v)[:4])
				}
			}
		}
	}
	stands(t, "P4.5: Crash of a fork", start, false, 5, 0)
}

// A second Crash finds nothing that waits.
func TestCrashTwice(t *testing.T) {
	d := mustNew(t, 1)
	d.Write(0, odd(1))
	d.Crash()
	answers(t, "P4.4: Crash of what is down", d.Crash(true, true), api.OK)
	d.Start()
	shows(t, "P4.4: what was lost stays lost", d, 0, full(0))
	d.Write(0, odd(2))
	d.Arm(1)
	d.Write(0, odd(3))
	answers(t, "P4.4: Crash of what a hit took down", d.Crash(true), api.OK)
	answers(t, "P4.4: and again", d.Crash(false, true), api.OK)
	d.Start()
	shows(t, "P4.4: what was kept stays kept", d, 0, odd(2))
}

// What was there at a Flush, and was not written since, is there behind any fall; what was written since is whole one of the writes.
func TestFlushedIsThereBehindAnyFall(t *testing.T) {
	const sectors = 4
	start := mustNew(t, sectors)
	for at := range sectors {
		start.Write(at, odd(50+at))
	}
	start.Flush()
	work := []int{0, 2, -1, 2, 0, 0, -1, 2} // -1: a Flush
	for hit := 1; hit <= len(work); hit++ {
		for bits := range 1 << 6 {
			d := start.Fork()
			d.Arm(hit)
			runUpToFall(d, work)
			keep := make([]bool, 6)
			for i := range keep {
				keep[i] = bits>>i&1 == 1
			}
			d.Crash(keep...)
			d.Start()
			for at := range sectors {
				could := outcomes(work[:hit], at)
				b, _ := d.Read(at)
				if !slices.ContainsFunc(could, func(v int) bool { return slices.Equal(b, odd(v)) }) {
					t.Fatalf("P4.4: fall at %d, kept %v: the sector %d: %x; want one of %v", hit, keep, at, b[:4], could)
				}
			}
		}
	}
}

func runUpToFall(d *disk.Disk, work []int) {
	for i, at := range work {
		e := api.OK
		if at < 0 {
			e = d.Flush()
		} else {
			e = d.Write(at, odd(i))
		}
		if e != api.OK {
			return
		}
	}
}

// outcomes is which writes (50 + at: that of the beginning) may be shown of a sector, behind a fall at the last one of work.
func outcomes(work []int, at int) []int {
	could := []int{50 + at}
	for i, to := range work {
		last := i == len(work)-1
		if to == at {
			could = append(could, i)
		}
		if to < 0 && !last {
			could = could[len(could)-1:]
		}
	}
	return could
}
