package wal_test

import (
	"strconv"
	"testing"

	"dunnage/api"
	"dunnage/disk"
	"dunnage/wal"
)

func lengths() []int {
	return []int{0, 1, 2, 439, 440, 441, 879, 880, 881, 1320, 1321, 4000, 8191, 8192}
}

// filled is a log of the age 5 on a disk of its own, from the turn from on, with so many sectors left.
func filled(t *testing.T, from uint64, left int) (*disk.Disk, *wal.Log) {
	t.Helper()
	d, _ := device(t, 256)
	w, _ := mustOpen(t, "a log", d, from, 0, 5)
	for w.Left() > left {
		if e := w.Append([]byte{byte(w.Left())}); e != api.OK {
			t.Fatalf("P7.2: Append with %d left: error %d", w.Left(), e)
		}
	}
	return d, w
}

// Append writes the record's sectors, turn after turn, and nothing else; they wait.
func TestAppendWritesItsSectors(t *testing.T) {
	for _, from := range []uint64{0, 1, 11, 28, 29, 1 << 33, most} {
		for _, n := range lengths() {
			d, l := device(t, 256)
			w, _, _ := wal.Open(d, l, from, 0, 300)
			record := bytesOf(n, 3)
			want := d.Fork()
			behind := putRecord(t, want, from, 300, record)
			answers(t, "P7.2: Append", w.Append(record), api.OK)
			of := sectorsOf(n)
			if d.Waiting() != of || !sameRecords(shown(t, d), shown(t, want)) {
				t.Errorf("P7.2: Append of %d bytes from %d: %d writes wait; want %d, as the frames say", n, from, d.Waiting(), of)
			}
			stands(t, "P7.2: Append", w, from, behind, 300, ring-of)
			if _, records := mustOpen(t, "P7.2: Append", d, from, 0, 301); !sameRecords(records, [][]byte{record}) {
				t.Errorf("P7.2: %d bytes, appended, are not read", n)
			}
			d.Crash()
			d.Start()
			if _, records := mustOpen(t, "P7.2: lost", d, from, 0, 301); len(records) != 0 {
				t.Errorf("P7.2: Append of %d bytes does not wait", n)
			}
		}
	}
}

// Each length is refused just where its sectors are more than are left; what is refused writes nothing, and what fits is still taken.
func TestAppendToTheLastSector(t *testing.T) {
	for _, n := range lengths() {
		for left := range ring + 1 {
			d, w := filled(t, 40, left)
			was, waiting := w.Next(), d.Waiting()
			if of := sectorsOf(n); of <= left {
				answers(t, "P7.2: Append that fits", w.Append(bytesOf(n, 1)), api.OK)
				stands(t, "P7.2: Append that fits", w, 40, was+uint64(of), 5, left-of)
				continue
			}
			answers(t, "P7.2: Append that does not fit", w.Append(bytesOf(n, 1)), api.ErrFull)
			stands(t, "R4: Append that does not fit", w, 40, was, 5, left)
			if d.Waiting() != waiting {
				t.Errorf("R4: Append of %d bytes with %d left wrote", n, left)
			}
			if left > 0 {
				answers(t, "P7.2: Append of what fits, behind", w.Append(bytesOf(left*frameMost, 1)), api.OK)
			}
			if got := holdOpen(t, "a full log", d, 40, 5, 6); len(got.records) == 0 || got.next != 40+ring {
				t.Errorf("P7.2: a full log is read up to %d", got.next)
			}
		}
	}
}

func TestAppendOfTooMuch(t *testing.T) {
	for _, left := range []int{0, 1, 18, 19, 20, ring} {
		for _, n := range []int{8193, 8360, 8361, 1 << 16, 1 << 20} {
			d, w := filled(t, 3, left)
			was, waiting := w.Next(), d.Waiting()
			answers(t, "P7.2: Append of "+strconv.Itoa(n), w.Append(make([]byte, n)), api.ErrLarge)
			stands(t, "R4: Append of too much", w, 3, was, 5, left)
			d.Arm(1)
			answers(t, "P7.2: Append of too much, where a write would fall", w.Append(make([]byte, n)), api.ErrLarge)
			if d.Down() || d.Waiting() != waiting {
				t.Errorf("R4: Append of %d bytes wrote", n)
			}
		}
	}
}

// R5: ErrLarge, ErrDown, ErrFull, in this order; what would be refused for room falls by nothing.
func TestErrorsOfAppendInOrder(t *testing.T) {
	d, w := filled(t, 0, 0)
	d.Arm(1)
	answers(t, "P7.2: full, and a write would fall", w.Append(nil), api.ErrFull)
	answers(t, "R5: full, and too large", w.Append(make([]byte, 8193)), api.ErrLarge)
	d.Crash()
	answers(t, "R5: full, down, and too large", w.Append(make([]byte, 8193)), api.ErrLarge)
	d.Start()
	answers(t, "P7.3: an ErrLarge is no ErrDown", w.Append(nil), api.ErrFull)
	d.Crash()
	answers(t, "R5: full, and down", w.Append(nil), api.ErrDown)
	answers(t, "R5: full, down, and too large", w.Append(make([]byte, 8193)), api.ErrLarge)
	d.Start()
	answers(t, "P7.3: full, behind an ErrDown", w.Append(nil), api.ErrDown)
	answers(t, "R5: full, behind an ErrDown, and too large", w.Append(make([]byte, 8193)), api.ErrLarge)
}

// A fall at each write of an Append: nothing of the log changes, and it answers ErrDown from then on.
func TestAppendFallsAtEachWrite(t *testing.T) {
	for _, n := range lengths() {
		for hit := 1; hit <= sectorsOf(n)+1; hit++ {
			d, l := device(t, 256)
			w, _, _ := wal.Open(d, l, 25, 0, 1)
			answers(t, "P7.2: Append", w.Append([]byte("ahead")), api.OK)
			answers(t, "P7.2: Sync", w.Sync(), api.OK)
			d.Arm(hit)
			want := api.ErrDown
			if hit > sectorsOf(n) {
				want = api.OK
			}
			answers(t, "P7.2: Append that falls", w.Append(bytesOf(n, 1)), want)
			if want == api.OK {
				continue
			}
			stands(t, "R4: Append that falls", w, 25, 26, 1, ring-1)
			if d.Waiting() != hit {
				t.Errorf("P7.2: Append that falls at %d: %d writes wait", hit, d.Waiting())
			}
			holdFallen(t, d, w)
		}
	}
}

// holdFallen holds a log that has answered ErrDown: it does so from then on, whatever becomes of the disk, and tells the rest as ever.
func holdFallen(t *testing.T, d *disk.Disk, w *wal.Log) {
	t.Helper()
	first, next, least, left := w.First(), w.Next(), w.Least(), w.Left()
	// The disk is up at first: the log itself has to mind that it fell.
	for _, turn := range []func(){func() { d.Start() }, func() { d.Crash() }, func() { d.Start() }} {
		turn()
		waiting := d.Waiting()
		answers(t, "P7.3: Append behind an ErrDown", w.Append([]byte("x")), api.ErrDown)
		answers(t, "P7.3: Sync behind an ErrDown", w.Sync(), api.ErrDown)
		answers(t, "P7.3: Append behind an ErrDown", w.Append(nil), api.ErrDown)
		if d.Waiting() != waiting {
			t.Errorf("P7.3: a log that has answered ErrDown wrote, or flushed")
		}
		stands(t, "P7.3: behind an ErrDown", w, first, next, least, left)
		answers(t, "P7.2: Free of a turn beside, behind an ErrDown", w.Free(next+1), api.ErrArg)
		answers(t, "P7.2: Free of First, behind an ErrDown", w.Free(first), api.OK)
		d.Write(0, make([]byte, 512))
	}
	answers(t, "P7.2: Free of Next, behind an ErrDown", w.Free(next), api.OK)
	answers(t, "P7.3: Append behind an ErrDown, and Free", w.Append(nil), api.ErrDown)
	other, _ := mustOpen(t, "P7.3: behind an ErrDown", d, next, w.Least(), 900)
	answers(t, "P7.2: Append to a log opened anew", other.Append(nil), api.OK)
	answers(t, "P7.3: Append to the one ahead", w.Append(nil), api.ErrDown)
}

func TestSync(t *testing.T) {
	d, w := filled(t, 8, 20)
	answers(t, "P7.2: Sync", w.Sync(), api.OK)
	if d.Waiting() != 0 {
		t.Errorf("P7.2: behind Sync %d writes wait", d.Waiting())
	}
	stands(t, "P7.2: Sync", w, 8, 18, 5, 20)
	answers(t, "P7.2: Sync with nothing ahead", w.Sync(), api.OK)
	w.Append([]byte("lost"))
	d.Crash()
	d.Start()
	w, records := mustOpen(t, "P7.2: behind Sync", d, 8, 0, 6)
	if len(records) != 10 {
		t.Errorf("P7.2: %d records behind Sync, and a fall; want 10", len(records))
	}
	d.Crash()
	answers(t, "P7.2: Sync of a disk that is down", w.Sync(), api.ErrDown)
	holdFallen(t, d, w)
}

func TestSyncFalls(t *testing.T) {
	d, w := filled(t, 8, 20)
	d.Arm(1)
	answers(t, "P7.2: Sync that falls", w.Sync(), api.ErrDown)
	if d.Waiting() != 10 {
		t.Errorf("P7.2: behind a Sync that falls %d writes wait; want 10", d.Waiting())
	}
	stands(t, "P7.2: Sync that falls", w, 8, 18, 5, 20)
	holdFallen(t, d, w)
}

func TestAppendToADiskThatIsDown(t *testing.T) {
	d, w := filled(t, 8, 20)
	d.Crash()
	answers(t, "P7.2: Append to a disk that is down", w.Append(nil), api.ErrDown)
	holdFallen(t, d, w)
}

// aged is a log of the age 9 with records of the ages 2, 2, 4 (read) and 9 (appended), of 1, 3, 2 and 1 sectors, from the turn from on.
func aged(t *testing.T, from uint64) (*disk.Disk, *wal.Log) {
	t.Helper()
	d, _ := device(t, 256)
	turn := putRecord(t, d, from, 2, bytesOf(5, 1))
	turn = putRecord(t, d, turn, 2, bytesOf(1000, 2))
	putRecord(t, d, turn, 4, bytesOf(500, 3))
	w, records := mustOpen(t, "a log", d, from, 1, 9)
	if len(records) != 3 || w.Append(nil) != api.OK {
		t.Fatalf("P7.1: %d records; want 3", len(records))
	}
	return d, w
}

// Each turn near the log, and some far off: those at which a record begins, and Next, are freed; the others are refused.
func TestFreeOfEachTurn(t *testing.T) {
	leasts := map[uint64]uint64{0: 2, 1: 2, 4: 4, 6: 9, 7: 9}
	for _, from := range []uint64{0, 5, 26, 1 << 35, most} {
		for by := -3; by < 2*ring; by++ {
			d, w := aged(t, from)
			to, waiting := from+uint64(by), d.Waiting()
			least, begins := leasts[uint64(by)]
			if !begins {
				answers(t, "P7.2: Free where no record begins, by "+strconv.Itoa(by), w.Free(to), api.ErrArg)
				stands(t, "R4: Free that is refused", w, from, from+7, 2, ring-7)
				continue
			}
			answers(t, "P7.2: Free of "+strconv.Itoa(by), w.Free(to), api.OK)
			stands(t, "P7.2: Free of "+strconv.Itoa(by), w, to, from+7, least, ring-7+by)
			if d.Waiting() != waiting {
				t.Errorf("P7.2: Free wrote")
			}
			holdFreed(t, w, from, by, leasts)
		}
		_, w := aged(t, from)
		for _, to := range []uint64{1<<64 - 1, 1 << 63, from + 1<<32, from + 1<<62, from + ring} {
			answers(t, "P7.2: Free of a turn far off", w.Free(to), api.ErrArg)
		}
	}
}

// holdFreed goes on with a log that is freed up to from and by: what is behind is gone for Free, what is ahead is not.
func holdFreed(t *testing.T, w *wal.Log, from uint64, by int, leasts map[uint64]uint64) {
	t.Helper()
	for again := range ring {
		_, begins := leasts[uint64(again)]
		if again > by && begins {
			break // the ones ahead are freed by the calls of TestFreeOfEachTurn
		}
		want := api.ErrArg
		if again == by {
			want = api.OK
		}
		answers(t, "P7.2: Free of "+strconv.Itoa(again)+" behind Free of "+strconv.Itoa(by), w.Free(from+uint64(again)), want)
	}
	next, left := w.Next(), w.Left()
	answers(t, "P7.2: Append behind Free", w.Append(bytesOf(441, 1)), api.OK)
	if w.Next() != next+2 || w.Left() != left-2 {
		t.Errorf("P7.3: Append behind Free: Next %d, Left %d", w.Next(), w.Left())
	}
	answers(t, "P7.2: Free up to what is appended", w.Free(next), api.OK)
	answers(t, "P7.2: Free within what is appended", w.Free(next+1), api.ErrArg)
	stands(t, "P7.3: Free up to what is appended", w, next, next+2, 9, ring-2)
	answers(t, "P7.2: Free of all", w.Free(next+2), api.OK)
	stands(t, "P7.3: Free of all", w, next+2, next+2, 9, ring)
	answers(t, "P7.2: Free of an empty log's First", w.Free(next+2), api.OK)
	answers(t, "P7.2: Free behind an empty log", w.Free(next+3), api.ErrArg)
	answers(t, "P7.2: Free ahead of an empty log", w.Free(next), api.ErrArg)
}

// Each choice of records freed in their order, one or more at a time.
func TestFreeStepByStep(t *testing.T) {
	begins := []uint64{0, 1, 4, 6, 7}
	leasts := []uint64{2, 2, 4, 9, 9}
	for choice := range 1 << len(begins) {
		_, w := aged(t, 100)
		for i, at := range begins {
			if choice>>i&1 == 0 {
				continue
			}
			answers(t, "P7.2: Free, step by step", w.Free(100+at), api.OK)
			stands(t, "P7.3: Free, step by step", w, 100+at, 107, leasts[i], ring-7+int(at))
			for _, gone := range begins[:i] {
				answers(t, "P7.2: Free of what is freed", w.Free(100+gone), api.ErrArg)
			}
		}
	}
}

func TestNilLog(t *testing.T) {
	var w *wal.Log
	answers(t, "P7.2: Append to a nil log", w.Append(nil), api.ErrNil)
	answers(t, "R5: Append of too much to a nil log", w.Append(make([]byte, 8193)), api.ErrNil)
	answers(t, "P7.2: Sync of a nil log", w.Sync(), api.ErrNil)
	answers(t, "P7.2: Free of a nil log", w.Free(0), api.ErrNil)
	answers(t, "P7.2: Free of a nil log", w.Free(1<<64-1), api.ErrNil)
	stands(t, "P7.3: a nil log", w, 0, 0, 0, 0)
}

// R1: a log that no Open made has no sectors, and panics at nothing.
func TestLogThatWasNotOpened(t *testing.T) {
	var w wal.Log
	if w.Append(nil) == api.OK || w.Append(make([]byte, 8193)) == api.OK || w.Sync() == api.OK {
		t.Error("R1: a log that was not opened takes records")
	}
	w.Free(0)
	answers(t, "P7.2: Free of a log that was not opened", w.Free(1), api.ErrArg)
	stands(t, "R8: a log that was not opened", &w, 0, 0, 0, 0)
}
