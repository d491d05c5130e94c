package wal_test

import (
	"bytes"
	"encoding/binary"
	"testing"

	"dunnage/api"
	"dunnage/disk"
	"dunnage/frame"
	"dunnage/layout"
	"dunnage/sector"
	"dunnage/wal"
)

const (
	ring       = 30 // sectors of the log of a device of 256
	ringAt     = 13 // the first of them
	frameMost  = 440
	recordMost = 8192
)

func device(t *testing.T, sectors int) (*disk.Disk, api.Layout) {
	t.Helper()
	d, e := disk.New(sectors)
	if e != api.OK {
		t.Fatalf("disk.New(%d): error %d", sectors, e)
	}
	l, e := layout.Plan(sectors)
	if e != api.OK {
		t.Fatalf("layout.Plan(%d): error %d", sectors, e)
	}
	return d, l
}

func mustOpen(t *testing.T, what string, d *disk.Disk, from, least, age uint64) (*wal.Log, [][]byte) {
	t.Helper()
	l, _ := layout.Plan(d.Size())
	w, records, e := wal.Open(d, l, from, least, age)
	if e != api.OK || w == nil {
		t.Fatalf("%s: Open(%d, %d, %d): error %d", what, from, least, age, e)
	}
	return w, records
}

func refusedOpen(t *testing.T, what string, d *disk.Disk, l api.Layout, from, least, age uint64, want api.Errno) {
	t.Helper()
	if w, records, e := wal.Open(d, l, from, least, age); e != want || w != nil || len(records) != 0 {
		t.Errorf("%s: Open(%d, %d, %d): %d records, error %d; want %d alone", what, from, least, age, len(records), e, want)
	}
}

func answers(t *testing.T, what string, got, want api.Errno) {
	t.Helper()
	if got != want {
		t.Errorf("%s: error %d; want %d", what, got, want)
	}
}

// stands holds what a log tells of itself.
func stands(t *testing.T, what string, w *wal.Log, first, next, least uint64, left int) {
	t.Helper()
	if w.First() != first || w.Next() != next || w.Least() != least || w.Left() != left {
		t.Errorf("%s: First %d, Next %d, Least %d, Left %d; want %d, %d, %d, %d", what, w.First(), w.Next(), w.Least(), w.Left(), first, next, least, left)
	}
}

func sameRecords(a, b [][]byte) bool {
	if len(a) != len(b) {
		return false
	}
	for i := range a {
		if !bytes.Equal(a[i], b[i]) {
			return false
		}
	}
	return true
}

// bytesOf is n bytes, others for each seed.
func bytesOf(n, seed int) []byte {
	b := make([]byte, n)
	for i := range b {
		b[i] = byte(i*7 + i/251 + seed*31 + 1)
	}
	return b
}

// sectorsOf is how many sectors a record of n bytes needs, counted one by one.
func sectorsOf(n int) int {
	count := 1
	for ; n > frameMost; n -= frameMost {
		count++
	}
	return count
}

// next is the number behind state in a row in which no order is to be seen, the same one each time.
func next(state uint32) uint32 {
	state ^= state << 13
	state ^= state >> 17
	return state ^ state<<5
}

// chance tells numbers from 0 up to (not with) n, in such a row.
func chance(seed uint32) func(n int) int {
	state := seed*2654435761 + 88172645
	return func(n int) int {
		state = next(state)
		return int(state>>3) % n
	}
}

// shown is all that a disk shows.
func shown(t *testing.T, d *disk.Disk) [][]byte {
	t.Helper()
	out := make([][]byte, d.Size())
	for at := range out {
		b, e := d.Read(at)
		if e != api.OK {
			t.Fatalf("disk.Read(%d): error %d", at, e)
		}
		out[at] = b
	}
	return out
}

// put writes a sector of a kind for a turn, bearing another turn or the same one.
func put(t *testing.T, d *disk.Disk, kind byte, turn, bears uint64, payload []byte) {
	t.Helper()
	b, e := sector.Seal(kind, bears, payload)
	if e != api.OK {
		t.Fatalf("sector.Seal: error %d", e)
	}
	l, _ := layout.Plan(d.Size())
	if e := d.Write(l.Log+int(turn%uint64(l.LogSize)), b); e != api.OK {
		t.Fatalf("disk.Write: error %d", e)
	}
}

func putFrame(t *testing.T, d *disk.Disk, turn uint64, f api.Frame) {
	t.Helper()
	b, e := frame.Write(f)
	if e != api.OK {
		t.Fatalf("frame.Write of %d bytes of %d: error %d", len(f.Data), f.Of, e)
	}
	put(t, d, api.KindLog, turn, turn, b)
}

// putRecord lays a record as a log of that age would, and tells the turn behind it.
func putRecord(t *testing.T, d *disk.Disk, turn, age uint64, record []byte) uint64 {
	t.Helper()
	of := sectorsOf(len(record))
	for i := range of {
		putFrame(t, d, turn+uint64(i), api.Frame{Age: age, First: turn, Of: of, Data: record[i*frameMost : min((i+1)*frameMost, len(record))]})
	}
	return turn + uint64(of)
}

// cell is what a sector of the ring says: a frame of Of 0, if none.
type cell struct {
	good  bool
	turn  uint64
	frame api.Frame
}

// plainCell reads a sector's bytes by the words of the chapters 3 and 6.
func plainCell(b []byte) cell {
	if !sector.Good(b) {
		return cell{}
	}
	c := cell{good: true, turn: binary.LittleEndian.Uint64(b[4:])}
	if b[0] != 0x4d {
		return c
	}
	if f, e := frame.Read(b[12 : 12+int(binary.LittleEndian.Uint16(b[2:]))]); e == api.OK {
		c.frame = f
	}
	return c
}

// telling is what an opening should tell.
type telling struct {
	err     api.Errno
	records [][]byte
	ages    []uint64
	next    uint64
	looked  int // sectors that are looked at, from the turn from on
}

// plainOpen goes by the words of P7.1: how many of a record's turns are parts of it is asked first, and then what that says.
func plainOpen(t *testing.T, d *disk.Disk, from, least, age uint64) telling {
	t.Helper()
	l, _ := layout.Plan(d.Size())
	var cells []cell
	for i := range l.LogSize {
		b, e := d.Read(l.Log + int((from+uint64(i))%uint64(l.LogSize)))
		if e != api.OK {
			t.Fatalf("disk.Read: error %d", e)
		}
		cells = append(cells, plainCell(b))
	}
	out := telling{}
	for at := 0; ; {
		n, of := plainParts(cells[at:], from+uint64(at), least, age)
		out.looked = min(at+n+1, len(cells))
		if n == of && of > 0 {
			out.looked = at + n
		}
		for _, c := range cells[:out.looked] {
			if !c.good {
				return telling{err: api.ErrBad, looked: out.looked}
			}
		}
		record, whole := plainJoin(cells[at : at+n])
		if n == 0 || n < of || !whole {
			out.next = from + uint64(at)
			return out
		}
		least = cells[at].frame.Age
		out.records, out.ages = append(out.records, record), append(out.ages, least)
		at += n
	}
}

// plainParts is how many cells in a row, from the first on, are parts of a record that begins at turn, and of how many it is.
func plainParts(cells []cell, turn, least, age uint64) (n, of int) {
	for i, c := range cells {
		f := c.frame
		part := c.good && c.turn == turn+uint64(i) && f.Of > 0 && f.First == turn && least <= f.Age && f.Age < age
		if i > 0 {
			part = part && f.Of == of && f.Age == cells[0].frame.Age
		}
		if !part || i > 0 && i == of {
			break
		}
		n, of = i+1, f.Of
	}
	return n, of
}

// plainJoin is the record of cells, if it is cut again as they are.
func plainJoin(cells []cell) ([]byte, bool) {
	var record []byte
	for _, c := range cells {
		record = append(record, c.frame.Data...)
	}
	if len(record) > recordMost || sectorsOf(len(record)) != len(cells) {
		return nil, false
	}
	for i, c := range cells {
		if !bytes.Equal(c.frame.Data, record[i*frameMost:min((i+1)*frameMost, len(record))]) {
			return nil, false
		}
	}
	return record, true
}

// holdOpen opens, and holds what is told against plainOpen, which it answers.
func holdOpen(t *testing.T, what string, d *disk.Disk, from, least, age uint64) telling {
	t.Helper()
	want := plainOpen(t, d, from, least, age)
	l, _ := layout.Plan(d.Size())
	w, records, e := wal.Open(d, l, from, least, age)
	if e != want.err || !sameRecords(records, want.records) {
		t.Fatalf("P7.1: %s: Open(%d, %d, %d): %d records, error %d; want %d, error %d", what, from, least, age, len(records), e, len(want.records), want.err)
	}
	if e != api.OK {
		if w != nil {
			t.Fatalf("R4: %s: a log beside error %d", what, e)
		}
		return want
	}
	wantLeast := age
	if len(want.ages) > 0 {
		wantLeast = want.ages[0]
	}
	stands(t, "P7.1: "+what, w, from, want.next, wantLeast, l.LogSize-int(want.next-from))
	return want
}
