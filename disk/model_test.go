package disk_test

import (
	"bytes"
	"testing"

	"dunnage/api"
	"dunnage/disk"
)

// plain is the chapter's words: what is kept, what waits in order, and no more.
type plain struct {
	kept  [][512]byte
	waits []wait
	down  bool
	armed int // the how many-th from now on is hit; 0: none
	flips int
}

type wait struct {
	at   int
	what [512]byte
}

func (p *plain) fork() *plain {
	f := *p
	f.kept = append([][512]byte{}, p.kept...)
	f.waits = append([]wait{}, p.waits...)
	return &f
}

func (p *plain) shown(at int) []byte {
	b := p.kept[at]
	for _, w := range p.waits {
		if w.at == at {
			b = w.what
		}
	}
	return b[:]
}

// hit counts one that would be done.
func (p *plain) hit() bool {
	if p.armed == 0 {
		return false
	}
	p.armed--
	return p.armed == 0
}

func (p *plain) write(at int, b []byte) api.Errno {
	if p.down {
		return api.ErrDown
	}
	if at < 0 || at >= len(p.kept) || len(b) != 512 {
		return api.ErrArg
	}
	p.waits = append(p.waits, wait{at, [512]byte(b)})
	if p.hit() {
		p.down = true
		return api.ErrDown
	}
	return api.OK
}

func (p *plain) flush() api.Errno {
	if p.down {
		return api.ErrDown
	}
	if p.hit() {
		p.down = true
		return api.ErrDown
	}
	for _, w := range p.waits {
		p.kept[w.at] = w.what
	}
	p.waits = nil
	return api.OK
}

func (p *plain) arm(n int) api.Errno {
	if p.down {
		return api.ErrDown
	}
	p.armed = max(n, 0)
	return api.OK
}

func (p *plain) crash(keep []bool) api.Errno {
	p.down = true
	for i, w := range p.waits {
		if i < len(keep) && keep[i] {
			p.kept[w.at] = w.what
		}
	}
	p.waits = nil
	return api.OK
}

func (p *plain) start() api.Errno {
	if p.down {
		p.waits, p.armed = nil, 0
	}
	p.down = false
	return api.OK
}

func (p *plain) flip(at, bit int) api.Errno {
	if at < 0 || at >= len(p.kept) || bit < 0 || bit >= 4096 {
		return api.ErrArg
	}
	p.kept[at][bit/8] ^= byte(1) << (bit % 8)
	p.flips++
	return api.OK
}

// both is a disk and what it should be.
type both struct {
	d *disk.Disk
	p *plain
}

func newBoth(t *testing.T, sectors int) both {
	return both{mustNew(t, sectors), &plain{kept: make([][512]byte, sectors)}}
}

func (b both) fork() both {
	return both{b.d.Fork(), b.p.fork()}
}

// alike holds the disk against what it should be.
func (b both) alike(t *testing.T, what string) {
	t.Helper()
	if b.d.Size() != len(b.p.kept) || b.d.Down() != b.p.down || b.d.Waiting() != len(b.p.waits) || b.d.Flips() != b.p.flips {
		t.Fatalf("P4: %s: Size %d, Down %v, Waiting %d, Flips %d; want %d, %v, %d, %d", what, b.d.Size(), b.d.Down(), b.d.Waiting(), b.d.Flips(), len(b.p.kept), b.p.down, len(b.p.waits), b.p.flips)
	}
	for at := range b.p.kept {
		got, e := b.d.Read(at)
		if b.p.down {
			if e != api.ErrDown || len(got) != 0 {
				t.Fatalf("P4.2: %s: Read(%d) of what is down: %d bytes, error %d", what, at, len(got), e)
			}
			continue
		}
		if want := b.p.shown(at); e != api.OK || !bytes.Equal(got, want) {
			t.Fatalf("P4.2: %s: Read(%d): %x, error %d; want %x", what, at, got, e, want)
		}
	}
}

// step is one call: of the disk, and of what it should be.
type step struct {
	name string
	do   func(b both, nth int) (api.Errno, api.Errno)
}

func writing(name string, at, length int) step {
	return step{name, func(b both, nth int) (api.Errno, api.Errno) {
		what := append(odd(nth), odd(nth)...)[:length]
		return b.d.Write(at, what), b.p.write(at, what)
	}}
}

func arming(name string, n int) step {
	return step{name, func(b both, _ int) (api.Errno, api.Errno) { return b.d.Arm(n), b.p.arm(n) }}
}

func crashing(name string, keep ...bool) step {
	return step{name, func(b both, _ int) (api.Errno, api.Errno) { return b.d.Crash(keep...), b.p.crash(keep) }}
}

func flipping(name string, at, bit int) step {
	return step{name, func(b both, _ int) (api.Errno, api.Errno) { return b.d.Flip(at, bit), b.p.flip(at, bit) }}
}

func flushing(b both, _ int) (api.Errno, api.Errno) { return b.d.Flush(), b.p.flush() }

func starting(b both, _ int) (api.Errno, api.Errno) { return b.d.Start(), b.p.start() }

func steps() []step {
	return []step{
		writing(" write0", 0, 512), writing(" write1", 1, 512), writing(" write2", 2, 512), writing(" short", 0, 511),
		{" flush", flushing}, {" start", starting},
		arming(" arm0", 0), arming(" arm1", 1), arming(" arm2", 2),
		crashing(" crash"), crashing(" crash+", true), crashing(" crash-+", false, true), crashing(" crash+++", true, true, true),
		flipping(" flip0", 0, 9), flipping(" flip1", 1, 4095),
	}
}

// Each run of five steps is as the chapter's words say; and what is done with a fork is not done with the disk.
func TestAllShortRuns(t *testing.T) {
	goAllWays(t, newBoth(t, 2), steps(), "", 5)
}

func goAllWays(t *testing.T, b both, l []step, run string, left int) {
	if left == 0 {
		return
	}
	for _, s := range l {
		f := b.fork()
		got, want := s.do(f, left)
		if got != want {
			t.Fatalf("P4: %s%s: error %d; want %d", run, s.name, got, want)
		}
		f.alike(t, run+s.name)
		goAllWays(t, f, l, run+s.name, left-1)
	}
	b.alike(t, run+", behind what was done with its forks")
}

// Long runs by chance that is always the same, over more sectors, with more that waits.
func TestLongRuns(t *testing.T) {
	state := uint32(88675123)
	roll := func(n int) int {
		state ^= state << 13
		state ^= state >> 17
		state ^= state << 5
		return int(state>>4) % n
	}
	for range 60 {
		b := newBoth(t, 1+roll(6))
		for nth := range 250 {
			s := anyStep(roll, b.p)
			got, want := s.do(b, nth)
			if got != want {
				t.Fatalf("P4:%s: error %d; want %d", s.name, got, want)
			}
			b.alike(t, s.name)
			if roll(20) == 0 {
				b = b.fork()
			}
		}
	}
}

func anyStep(roll func(int) int, p *plain) step {
	at := roll(len(p.kept)+2) - 1
	switch k := roll(40); {
	case k < 22:
		return writing(" write", at, 512)
	case k < 24:
		return writing(" write of another length", at, roll(1024))
	case k < 27:
		return step{" flush", flushing}
	case k < 29:
		return arming(" arm", roll(12)-1)
	case k < 31:
		keep := make([]bool, roll(20))
		for i := range keep {
			keep[i] = roll(2) == 0
		}
		return crashing(" crash", keep...)
	case k < 36:
		return step{" start", starting}
	}
	return flipping(" flip", at, roll(4200)-50)
}
