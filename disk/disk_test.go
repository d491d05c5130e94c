package disk_test

import (
	"bytes"
	"math"
	"testing"

	"dunnage/api"
	"dunnage/disk"
)

// full is a sector of that byte alone; the chapter's number stands for itself: a turned constant is seen.
func full(v byte) []byte {
	return bytes.Repeat([]byte{v}, 512)
}

// odd is a sector in which no two bytes beside each other are the same, and which differs from that of any other v.
func odd(v int) []byte {
	b := make([]byte, 512)
	for i := range b {
		b[i] = byte(i*7 + i/256 + v*31)
	}
	b[0], b[1], b[2] = byte(v), byte(v>>8), byte(v>>16)
	return b
}

func mustNew(t *testing.T, sectors int) *disk.Disk {
	t.Helper()
	d, e := disk.New(sectors)
	if e != api.OK || d == nil {
		t.Fatalf("P4.1: New(%d): error %d", sectors, e)
	}
	return d
}

// answers holds an error against the one that is wanted.
func answers(t *testing.T, what string, got, want api.Errno) {
	t.Helper()
	if got != want {
		t.Errorf("%s: error %d; want %d", what, got, want)
	}
}

func shows(t *testing.T, what string, d *disk.Disk, at int, want []byte) {
	t.Helper()
	b, e := d.Read(at)
	if e != api.OK || !bytes.Equal(b, want) {
		t.Errorf("%s: Read(%d): %x, error %d; want %x", what, at, b, e, want)
	}
}

func refusesToRead(t *testing.T, what string, d *disk.Disk, at int, want api.Errno) {
	t.Helper()
	b, e := d.Read(at)
	if e != want {
		t.Errorf("%s: Read(%d): error %d; want %d", what, at, e, want)
	}
	if len(b) != 0 {
		t.Errorf("R4: %s: Read(%d): error %d beside %x", what, at, e, b)
	}
}

// stands holds what a disk tells of itself.
func stands(t *testing.T, what string, d *disk.Disk, down bool, waiting, flips int) {
	t.Helper()
	if d.Down() != down || d.Waiting() != waiting || d.Flips() != flips {
		t.Errorf("%s: Down %v, Waiting %d, Flips %d; want %v, %d, %d", what, d.Down(), d.Waiting(), d.Flips(), down, waiting, flips)
	}
}

func TestExample(t *testing.T) {
	d := mustNew(t, 2)
	answers(t, "P4.2: Write(0, all 1)", d.Write(0, full(1)), api.OK)
	answers(t, "P4.2: Flush", d.Flush(), api.OK)
	answers(t, "P4.2: Write(0, all 2)", d.Write(0, full(2)), api.OK)
	answers(t, "P4.2: Write(1, all 3)", d.Write(1, full(3)), api.OK)
	answers(t, "P4.4: Crash(false, true)", d.Crash(false, true), api.OK)
	answers(t, "P4.4: Start", d.Start(), api.OK)
	shows(t, "P4.4: of two writes the second is kept", d, 0, full(1))
	shows(t, "P4.4: of two writes the second is kept", d, 1, full(3))
	answers(t, "P4.3: Arm(1)", d.Arm(1), api.OK)
	answers(t, "P4.3: Flush that is hit", d.Flush(), api.ErrDown)
	answers(t, "P4.5: Flip(0, 9) of a disk that is down", d.Flip(0, 9), api.OK)
	d.Start()
	want := full(1)
	want[1] = 1 ^ 2
	shows(t, "P4.5: Flip(0, 9)", d, 0, want)
}

func TestNew(t *testing.T) {
	for _, n := range []int{math.MinInt, -65536, -1, 0, 65537, 65536 + 256, 1 << 32, math.MaxInt} {
		if d, e := disk.New(n); e != api.ErrArg || d != nil {
			t.Errorf("P4.1: New(%d): %v, error %d; want ErrArg", n, d != nil, e)
		}
	}
	for _, n := range []int{1, 2, 255, 256, 65535, 65536} {
		d := mustNew(t, n)
		if d.Size() != n {
			t.Errorf("P4.1: New(%d): Size %d", n, d.Size())
		}
		stands(t, "P4.1: a new disk", d, false, 0, 0)
		for _, at := range []int{0, n / 2, n - 1} {
			shows(t, "P4.1: all 0 at first", d, at, full(0))
		}
		for _, at := range []int{-1, n, math.MinInt, math.MaxInt} {
			refusesToRead(t, "P4.2: no such sector", d, at, api.ErrArg)
			answers(t, "P4.2: Write to no such sector", d.Write(at, full(1)), api.ErrArg)
		}
		stands(t, "R4: a disk that refused", d, false, 0, 0)
	}
}

func TestSizeStays(t *testing.T) {
	d := mustNew(t, 3)
	d.Write(2, full(1))
	d.Flush()
	d.Flip(1, 1)
	d.Write(0, full(1))
	d.Crash()
	if d.Size() != 3 {
		t.Errorf("P4.1: Size of a disk that is down: %d; want 3", d.Size())
	}
	d.Start()
	if d.Size() != 3 || d.Fork().Size() != 3 {
		t.Errorf("P4.1: Size: %d, of its fork %d; want 3", d.Size(), d.Fork().Size())
	}
}

func TestWriteReadFlush(t *testing.T) {
	d := mustNew(t, 3)
	answers(t, "P4.2: Flush of nothing", d.Flush(), api.OK)
	for i, at := range []int{1, 1, 2, 1} {
		answers(t, "P4.2: Write", d.Write(at, odd(i+1)), api.OK)
		stands(t, "P4.2: each Write waits", d, false, i+1, 0)
		shows(t, "P4.2: the last waiting write", d, at, odd(i+1))
	}
	shows(t, "P4.2: never written", d, 0, full(0))
	shows(t, "P4.2: written once", d, 2, odd(3))
	stands(t, "R2: Read takes nothing away", d, false, 4, 0)
	answers(t, "P4.2: Flush", d.Flush(), api.OK)
	stands(t, "P4.2: a Flush", d, false, 0, 0)
	d.Crash(true, true)
	d.Start()
	shows(t, "P4.2: kept by a Flush", d, 0, full(0))
	shows(t, "P4.2: kept by a Flush in order", d, 1, odd(4))
	shows(t, "P4.2: kept by a Flush", d, 2, odd(3))
	d.Write(2, full(0))
	shows(t, "P4.2: a waiting write of 0s", d, 2, full(0))
	d.Flush()
	shows(t, "P4.2: a write of 0s that is kept", d, 2, full(0))
}

func TestWriteOfOtherLengths(t *testing.T) {
	d := mustNew(t, 2)
	d.Write(1, odd(5))
	for n := range 1100 {
		if n == 512 {
			continue
		}
		answers(t, "P4.2: Write of another length", d.Write(1, make([]byte, n)), api.ErrArg)
	}
	answers(t, "P4.2: Write of nil", d.Write(1, nil), api.ErrArg)
	answers(t, "P4.2: Write of nothing to nowhere", d.Write(2, nil), api.ErrArg)
	stands(t, "R4: a disk that refused", d, false, 1, 0)
	shows(t, "R4: a disk that refused", d, 1, odd(5))
}

// Of a disk that is down ErrDown comes ahead of ErrArg.
func TestDownComesFirst(t *testing.T) {
	d := mustNew(t, 2)
	d.Write(1, odd(3))
	d.Flush()
	d.Crash()
	for _, at := range []int{-1, 0, 1, 2, math.MaxInt} {
		refusesToRead(t, "P4.2: down", d, at, api.ErrDown)
		answers(t, "P4.2: Write while down", d.Write(at, full(1)), api.ErrDown)
		answers(t, "P4.2: Write of nil while down", d.Write(at, nil), api.ErrDown)
	}
	answers(t, "P4.2: Flush while down", d.Flush(), api.ErrDown)
	for _, n := range []int{-1, 0, 1, 2} {
		answers(t, "P4.2: Arm while down", d.Arm(n), api.ErrDown)
	}
	stands(t, "R4: a disk that is down", d, true, 0, 0)
	d.Start()
	shows(t, "R4: a disk that was down", d, 0, full(0))
	shows(t, "R4: a disk that was down", d, 1, odd(3))
}

func TestNil(t *testing.T) {
	var d *disk.Disk
	refusesToRead(t, "P4.2: a nil disk", d, 0, api.ErrNil)
	refusesToRead(t, "R5: a nil disk", d, -1, api.ErrNil)
	answers(t, "P4.2: Write to a nil disk", d.Write(0, full(1)), api.ErrNil)
	answers(t, "R5: Write of nil to a nil disk", d.Write(-1, nil), api.ErrNil)
	answers(t, "P4.2: Flush of a nil disk", d.Flush(), api.ErrNil)
	answers(t, "P4.2: Arm of a nil disk", d.Arm(1), api.ErrNil)
	answers(t, "P4.2: Arm of a nil disk", d.Arm(0), api.ErrNil)
	answers(t, "P4.4: Crash of a nil disk", d.Crash(true), api.ErrNil)
	answers(t, "P4.4: Start of a nil disk", d.Start(), api.ErrNil)
	answers(t, "P4.5: Flip of a nil disk", d.Flip(0, 0), api.ErrNil)
	answers(t, "R5: Flip of a nil disk", d.Flip(-1, -1), api.ErrNil)
	stands(t, "P4.5: a nil disk", d, false, 0, 0)
	if d.Size() != 0 || d.Fork() != nil {
		t.Errorf("P4.5: a nil disk: Size %d, Fork %v; want 0, nil", d.Size(), d.Fork())
	}
}

// R1: a disk that New did not make has no sector, and panics nowhere.
func TestDiskThatNewDidNotMake(t *testing.T) {
	d := new(disk.Disk)
	answers(t, "R1: Write", d.Write(0, full(1)), api.ErrArg)
	refusesToRead(t, "R1: no sector", d, 0, api.ErrArg)
	answers(t, "R1: Flip", d.Flip(0, 0), api.ErrArg)
	answers(t, "R1: Flush", d.Flush(), api.OK)
	answers(t, "R1: Arm", d.Arm(1), api.OK)
	answers(t, "R1: Flush that is hit", d.Fork().Flush(), api.ErrDown)
	answers(t, "R1: Crash", d.Crash(true), api.OK)
	answers(t, "R1: Start", d.Start(), api.OK)
	stands(t, "R1: a disk of no sectors", d, false, 0, 0)
	if d.Size() != 0 {
		t.Errorf("R1: Size %d; want 0", d.Size())
	}
}

func TestFlipEachBit(t *testing.T) {
	d := mustNew(t, 2)
	d.Write(1, odd(9))
	d.Flush()
	for bit := range 8 * 512 {
		for _, down := range []bool{false, true} {
			f := d.Fork()
			if down {
				f.Crash()
			}
			answers(t, "P4.5: Flip", f.Flip(1, bit), api.OK)
			stands(t, "P4.5: Flip", f, down, 0, 1)
			f.Start()
			want := odd(9)
			want[bit/8] ^= byte(1) << (bit % 8)
			shows(t, "P4.5: Flip", f, 1, want)
			shows(t, "P4.5: Flip of another sector", f, 0, full(0))
			f.Flip(1, bit)
			shows(t, "P4.5: Flip of a bit twice", f, 1, odd(9))
			stands(t, "P4.5: Flip of a bit twice", f, false, 0, 2)
		}
	}
	stands(t, "P4.5: Flip of a fork", d, false, 0, 0)
}

func TestFlipOfWhatIsNotThere(t *testing.T) {
	d := mustNew(t, 2)
	rows := []struct{ at, bit int }{
		{-1, 0}, {2, 0}, {math.MinInt, 5}, {math.MaxInt, 5}, {0, -1}, {1, 4096}, {0, 4097}, {0, math.MinInt}, {1, math.MaxInt}, {-1, -1}, {2, 4096},
	}
	for _, down := range []bool{false, true} {
		if down {
			d.Crash()
		}
		for _, r := range rows {
			if e := d.Flip(r.at, r.bit); e != api.ErrArg {
				t.Errorf("P4.5: Flip(%d, %d), down %v: error %d; want ErrArg", r.at, r.bit, down, e)
			}
		}
		stands(t, "R4: Flip that is refused", d, down, 0, 0)
	}
	d.Start()
	shows(t, "R4: Flip that is refused", d, 0, full(0))
	shows(t, "R4: Flip that is refused", d, 1, full(0))
}

// What waits is not touched by Flip: not as it is shown, and not as it is kept later.
func TestFlipBelowWhatWaits(t *testing.T) {
	turned := full(0)
	turned[511] = 0x80
	d := mustNew(t, 1)
	d.Write(0, odd(1))
	answers(t, "P4.5: Flip(0, 4095)", d.Flip(0, 4095), api.OK)
	shows(t, "P4.5: Flip below what waits", d, 0, odd(1))
	stands(t, "P4.5: Flip below what waits", d, false, 1, 1)

	lost := d.Fork()
	lost.Crash(false)
	lost.Start()
	shows(t, "P4.5: the write above the turned bit is lost", lost, 0, turned)

	kept := d.Fork()
	kept.Crash(true)
	kept.Start()
	shows(t, "P4.5: kept by a Crash as it was written", kept, 0, odd(1))

	d.Flush()
	shows(t, "P4.5: kept by a Flush as it was written", d, 0, odd(1))
	d.Crash()
	d.Start()
	shows(t, "P4.5: kept by a Flush as it was written", d, 0, odd(1))
	stands(t, "P4.5: Flips counts on", d, false, 0, 1)
}
