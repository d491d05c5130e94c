package wal_test

import (
	"strconv"
	"testing"

	"dunnage/api"
	"dunnage/disk"
	"dunnage/layout"
	"dunnage/wal"
)

const allBits = 8 * 512

// kept is a disk on which nothing waits, and an opening of its log.
type kept struct {
	name             string
	d                *disk.Disk
	from, least, age uint64
	looked           int // sectors that are looked at, from the turn from on
}

func keptLogs(t *testing.T) []kept {
	t.Helper()
	empty, _ := device(t, 256)
	some, _ := aged(t, 27)
	full, _ := filled(t, 50, 0)
	c := newChain(t) // a, the first of b lost, the others of b and c stale
	c.append(4, 1)
	c.append(1000, 2)
	c.append(5, 3)
	c.fall(true, false, true, true, true)
	cut := c.d.Fork() // its first sector is there, the second is not: both are looked at
	putFrame(t, cut, 1, api.Frame{Age: 1, First: 1, Of: 3, Data: bytesOf(440, 2)})
	cut.Write(layoutAt(2), make([]byte, 512))
	list := []kept{
		{"an empty log", empty, 0, 0, 1, 1},
		{"a log of four records", some, 27, 2, 10, 8},
		{"a log of which nothing counts", some.Fork(), 27, 10, 10, 1},
		{"a full log", full, 50, 5, 6, ring},
		{"a log with stale sectors", c.d, 0, 1, 2, 2},
		{"a log with a record that is cut", cut, 0, 1, 2, 3},
	}
	for _, k := range list {
		k.d.Flush()
	}
	return list
}

// holdTurned turns bits of what is kept of a sector, opens, and turns them back: ErrBad is told, if that sector is looked at, and else what is told without.
func holdTurned(t *testing.T, k kept, was telling, i int, bits ...int) {
	t.Helper()
	at := layoutAt(k.from + uint64(i))
	turn := func() {
		for _, bit := range bits {
			if e := k.d.Flip(at, bit); e != api.OK {
				t.Fatalf("disk.Flip(%d, %d): error %d", at, bit, e)
			}
		}
	}
	turn()
	defer turn()
	l, _ := layout.Plan(256)
	w, records, e := wal.Open(k.d, l, k.from, k.least, k.age)
	if i < k.looked {
		if e != api.ErrBad || w != nil || len(records) != 0 {
			t.Fatalf("P7.5: %s, sector %d with the bits %v turned: %d records, error %d; want ErrBad", k.name, i, bits, len(records), e)
		}
		return
	}
	if e != api.OK || !sameRecords(records, was.records) || w.Next() != was.next {
		t.Fatalf("P7.5: %s, sector %d (which is not looked at) with the bits %v turned: %d records, error %d", k.name, i, bits, len(records), e)
	}
}

func TestTurnedBits(t *testing.T) {
	for _, k := range keptLogs(t) {
		was := holdOpen(t, k.name, k.d, k.from, k.least, k.age)
		if was.err != api.OK || was.looked != k.looked {
			t.Fatalf("P7.1: %s: %d sectors are looked at, error %d; want %d", k.name, was.looked, was.err, k.looked)
		}
		pick := chance(uint32(len(k.name)))
		for i := range ring {
			for range 25 {
				a := pick(allBits)
				b := (a + 1 + pick(allBits-1)) % allBits
				holdTurned(t, k, was, i, a)
				holdTurned(t, k, was, i, a, b)
				if c := pick(allBits); c != a && c != b {
					holdTurned(t, k, was, i, a, b, c)
				}
			}
			for _, bit := range []int{0, 7, 8, 16, 31, 32, 95, 96, 104, 112, 120, 4063, 4064, allBits - 1} {
				holdTurned(t, k, was, i, bit)
			}
		}
		holdOpen(t, k.name+", turned back", k.d, k.from, k.least, k.age)
	}
}

// Each single bit of a record's sectors, and of the blank one behind them.
func TestEachTurnedBit(t *testing.T) {
	d, _ := device(t, 256)
	putRecord(t, d, 30, 1, bytesOf(441, 1))
	d.Flush()
	k := kept{"a record of two sectors", d, 30, 0, 2, 3}
	was := holdOpen(t, k.name, d, 30, 0, 2)
	for i := range 4 {
		for bit := range allBits {
			holdTurned(t, k, was, i, bit)
		}
	}
}

// Bits of many sectors, one to three of each: ErrBad, or what is told without; and without one that is looked at, the latter.
func TestTurnedBitsOfManySectors(t *testing.T) {
	l, _ := layout.Plan(256)
	for _, k := range keptLogs(t) {
		was := plainOpen(t, k.d, k.from, k.least, k.age)
		pick := chance(7)
		for range 60 {
			d, want := k.d.Fork(), api.OK
			for range 1 + pick(8) {
				i := pick(ring)
				for n := range 1 + pick(3) {
					d.Flip(layoutAt(k.from+uint64(i)), 1300*n+pick(1300))
				}
			}
			for i := range k.looked { // a bit may have been turned back
				was, _ := k.d.Read(layoutAt(k.from + uint64(i)))
				is, _ := d.Read(layoutAt(k.from + uint64(i)))
				if string(was) != string(is) {
					want = api.ErrBad
				}
			}
			_, records, e := wal.Open(d, l, k.from, k.least, k.age)
			if e != want || e == api.OK && !sameRecords(records, was.records) {
				t.Fatalf("P7.5: %s: %d records, error %d; want error %d", k.name, len(records), e, want)
			}
		}
	}
}

// Bits of sectors that are not the log's are nothing to it.
func TestTurnedBitsElsewhere(t *testing.T) {
	d, w := filled(t, 0, 3)
	w.Sync()
	l, _ := layout.Plan(256)
	for at := range 256 {
		if layout.Region(l, at) != api.RegLog {
			d.Flip(at, at)
		}
	}
	if _, records := mustOpen(t, "P7.5: bits turned elsewhere", d, 0, 0, 6); len(records) != ring-3 {
		t.Errorf("P7.5: bits turned elsewhere: %d records", len(records))
	}
}

// A turned bit is gone where a new record is written over it, and is not seen while a write waits above it.
func TestTurnedBitsUnderARecord(t *testing.T) {
	d, w := filled(t, 0, 0)
	w.Sync()
	w.Free(30)
	for i := range 3 {
		d.Flip(layoutAt(uint64(i)), 100)
	}
	for range 3 {
		answers(t, "P7.2: Append over a turned bit", w.Append([]byte("new")), api.OK)
	}
	for i := range 2 {
		if _, records := mustOpen(t, "P7.5: over turned bits "+strconv.Itoa(i), d, 30, 5, 6); len(records) != 3 {
			t.Errorf("P7.5: over turned bits: %d records; want 3", len(records))
		}
		answers(t, "P7.2: Sync", w.Sync(), api.OK)
	}
}
