package wal_test

import (
	"bytes"
	"strconv"
	"testing"

	"dunnage/api"
	"dunnage/disk"
	"dunnage/layout"
	"dunnage/wal"
)

const most = 1 << 62

func TestExample(t *testing.T) {
	d, _ := device(t, 256)
	w, records := mustOpen(t, "example 1", d, 0, 0, 1)
	if len(records) != 0 {
		t.Errorf("example 1: %d records of an empty disk", len(records))
	}
	answers(t, "example 1: Append(a)", w.Append([]byte("a")), api.OK)
	answers(t, "example 1: Append(b)", w.Append([]byte("b")), api.OK)
	answers(t, "example 1: Sync", w.Sync(), api.OK)
	answers(t, "example 1: Append(c)", w.Append([]byte("c")), api.OK)
	d.Crash()
	d.Start()
	w, records = mustOpen(t, "example 1", d, 0, 0, 2)
	if !sameRecords(records, [][]byte{[]byte("a"), []byte("b")}) {
		t.Errorf("example 1: behind the fall: %q; want a, b", records)
	}
	answers(t, "example 1: Append(d)", w.Append([]byte("d")), api.OK)
	b, _ := d.Read(ringAt + 2)
	// the kind, 0, the length, the turn 2; the age 2, the first turn 2, of 1, d
	if !bytes.Equal(b[:16], []byte{0x4d, 0, 4, 0, 2, 0, 0, 0, 0, 0, 0, 0, 2, 2, 1, 'd'}) {
		t.Errorf("example 1: the sector of d: % x", b[:16])
	}
}

func TestOpenOfAnEmptyDisk(t *testing.T) {
	for _, sectors := range []int{256, 257, 1000, 65536} {
		d, l := device(t, sectors)
		for _, from := range []uint64{0, 1, 29, 30, 31, 1 << 32, most} {
			for _, least := range []uint64{0, 1, 6, 7} {
				w, records := mustOpen(t, "P7.1: an empty disk", d, from, least, 7)
				if len(records) != 0 {
					t.Errorf("P7.1: %d records of an empty disk", len(records))
				}
				stands(t, "P7.1: an empty disk", w, from, from, 7, l.LogSize)
			}
		}
	}
}

func TestOpenRefuses(t *testing.T) {
	d, l := device(t, 256)
	refusedOpen(t, "P7.1: a nil disk", nil, l, 0, 0, 1, api.ErrNil)
	refusedOpen(t, "R5: a nil disk and all else", nil, api.Layout{}, most+1, 2, 0, api.ErrNil)
	for _, row := range []struct{ from, least, age uint64 }{
		{0, 0, 0}, {0, 1, 0}, {0, 2, 1}, {0, 1<<64 - 1, 1<<64 - 2}, {most + 1, 0, 1}, {1 << 63, 0, 1}, {1<<64 - 1, 0, 1},
	} {
		refusedOpen(t, "P7.1: a wrong number", d, l, row.from, row.least, row.age, api.ErrArg)
	}
	for _, row := range []struct{ from, least, age uint64 }{{0, 0, 1}, {0, 1, 1}, {most, 0, 1}, {most - 1, 5, 5}, {0, 1<<64 - 1, 1<<64 - 1}, {0, 0, 1<<64 - 1}} {
		mustOpen(t, "P7.1: numbers at the edge", d, row.from, row.least, row.age)
	}
	d.Crash()
	refusedOpen(t, "P7.1: a disk that is down", d, l, 0, 0, 1, api.ErrDown)
	refusedOpen(t, "R5: down, and the age is 0", d, l, 0, 0, 0, api.ErrArg)
	refusedOpen(t, "R5: down, and least is above age", d, l, 0, 3, 2, api.ErrArg)
	refusedOpen(t, "R5: down, and from is too great", d, l, most+1, 0, 1, api.ErrArg)
	refusedOpen(t, "R5: down, and another layout", d, api.Layout{}, 0, 0, 1, api.ErrArg)
	d.Flip(ringAt, 3)
	refusedOpen(t, "R5: down, and a sector is bad", d, l, 0, 0, 1, api.ErrDown)
	d.Start()
	refusedOpen(t, "P7.1: a sector is bad", d, l, 0, 0, 1, api.ErrBad)
	refusedOpen(t, "R5: a sector is bad, and the age is 0", d, l, 0, 0, 0, api.ErrArg)
}

// A layout with any number turned, of another size, or of a disk that has none.
func TestOpenOfAnotherLayout(t *testing.T) {
	d, l := device(t, 256)
	for i := range 9 {
		for _, by := range []int{1, -1, 1 << 40, -1 << 62} {
			other := l
			numbers := []*int{&other.Sectors, &other.Bounce, &other.Log, &other.LogSize, &other.Image[0], &other.Image[1], &other.ImgSize, &other.Segs, &other.Segments}
			*numbers[i] += by
			refusedOpen(t, "P7.1: a layout with number "+strconv.Itoa(i)+" turned", d, other, 0, 0, 1, api.ErrArg)
		}
	}
	for _, sectors := range []int{257, 264, 512, 65536} {
		other, _ := layout.Plan(sectors)
		refusedOpen(t, "P7.1: a layout of another size", d, other, 0, 0, 1, api.ErrArg)
	}
	for _, sectors := range []int{1, 43, 255} {
		small, e := disk.New(sectors)
		if e != api.OK {
			t.Fatalf("disk.New(%d): error %d", sectors, e)
		}
		refusedOpen(t, "P7.1: a disk that is too small", small, l, 0, 0, 1, api.ErrArg)
		refusedOpen(t, "P7.1: a disk that is too small, and no layout", small, api.Layout{}, 0, 0, 1, api.ErrArg)
	}
}

// a laid ring: what stands ahead of the reading, and how many of the three records a, b, c are told.
type laid struct {
	name string
	lay  func(t *testing.T, d *disk.Disk)
	want int
}

// stops are records a (turn 0), b (turns 1 to 3) and c (turn 4) of the ages 3, 4 and 4, and what ends the reading among them; read with least 3, age 5.
func stops() []laid {
	b := bytesOf(1000, 2)
	part := func(i int) api.Frame {
		return api.Frame{Age: 4, First: 1, Of: 3, Data: b[i*frameMost : min((i+1)*frameMost, len(b))]}
	}
	turned := func(i int, turn func(f *api.Frame)) func(t *testing.T, d *disk.Disk) {
		return func(t *testing.T, d *disk.Disk) {
			f := part(i)
			turn(&f)
			putFrame(t, d, uint64(1+i), f)
		}
	}
	blank := func(turn int) func(t *testing.T, d *disk.Disk) {
		return func(t *testing.T, d *disk.Disk) { d.Write(ringAt+turn, make([]byte, 512)) }
	}
	single := func(turn uint64, f api.Frame) func(t *testing.T, d *disk.Disk) {
		return func(t *testing.T, d *disk.Disk) { putFrame(t, d, turn, f) }
	}
	list := []laid{
		{"nothing", func(*testing.T, *disk.Disk) {}, 3},
		{"a is blank", blank(0), 0}, {"b's first is blank", blank(1), 1}, {"b's second is blank", blank(2), 1},
		{"b's last is blank", blank(3), 1}, {"c is blank", blank(4), 2},
		{"a is older than least", single(0, api.Frame{Age: 2, First: 0, Of: 1}), 0},
		{"a is of this age", single(0, api.Frame{Age: 5, First: 0, Of: 1}), 0},
		{"a is of a later age", single(0, api.Frame{Age: 6, First: 0, Of: 1}), 0},
		{"c is older than b", single(4, api.Frame{Age: 3, First: 4, Of: 1}), 2},
		{"c is of this age", single(4, api.Frame{Age: 5, First: 4, Of: 1}), 2},
		{"c is of the greatest age", single(4, api.Frame{Age: 1<<64 - 1, First: 4, Of: 1}), 2},
		{"c's First is less", single(4, api.Frame{Age: 4, First: 3, Of: 1}), 2},
		{"c's First is greater", single(4, api.Frame{Age: 4, First: 5, Of: 1}), 2},
		{"c is of two, and the second is blank", single(4, api.Frame{Age: 4, First: 4, Of: 2, Data: bytesOf(440, 1)}), 2},
		{"a is of two, and the second is b's", single(0, api.Frame{Age: 4, First: 0, Of: 2, Data: bytesOf(440, 1)}), 0},
		{"c of another kind", func(t *testing.T, d *disk.Disk) { put(t, d, api.KindImage, 4, 4, []byte{4, 4, 1}) }, 2},
		{"c of the ring's round ahead", func(t *testing.T, d *disk.Disk) { put(t, d, api.KindLog, 4, 4+ring, []byte{4, 4, 1}) }, 2},
		{"c bears another turn", func(t *testing.T, d *disk.Disk) { put(t, d, api.KindLog, 4, 5, []byte{4, 4, 1}) }, 2},
		{"c is no frame: nothing", func(t *testing.T, d *disk.Disk) { put(t, d, api.KindLog, 4, 4, nil) }, 2},
		{"c is no frame: of none", func(t *testing.T, d *disk.Disk) { put(t, d, api.KindLog, 4, 4, []byte{4, 4, 0}) }, 2},
		{"c is no frame: of 33", func(t *testing.T, d *disk.Disk) { put(t, d, api.KindLog, 4, 4, []byte{4, 4, 33}) }, 2},
		{"c is no frame: a long form", func(t *testing.T, d *disk.Disk) { put(t, d, api.KindLog, 4, 4, []byte{0x84, 0, 4, 1}) }, 2},
		{"c is no frame: too long", func(t *testing.T, d *disk.Disk) {
			put(t, d, api.KindLog, 4, 4, append([]byte{4, 4, 1}, bytesOf(441, 1)...))
		}, 2},
	}
	for i := range 3 {
		at := "b's part " + strconv.Itoa(i)
		list = append(list,
			laid{at + " of another age", turned(i, func(f *api.Frame) { f.Age = 3 }), 1},
			laid{at + " of another First", turned(i, func(f *api.Frame) { f.First = 2 }), 1},
			laid{at + " of another Of", turned(i, func(f *api.Frame) { f.Of = 4 }), 1},
			laid{at + " of another length", turned(i, func(f *api.Frame) { f.Data = f.Data[:len(f.Data)/440*439] }), 1},
			laid{at + " of another kind", func(t *testing.T, d *disk.Disk) { put(t, d, api.KindValue, uint64(1+i), uint64(1+i), []byte{4, 1, 3}) }, 1},
			laid{at + " bears another turn", func(t *testing.T, d *disk.Disk) { put(t, d, api.KindLog, uint64(1+i), uint64(31+i), []byte{4, 1, 3}) }, 1},
			laid{at + " is no frame", func(t *testing.T, d *disk.Disk) { put(t, d, api.KindLog, uint64(1+i), uint64(1+i), []byte{4, 1}) }, 1},
		)
	}
	return list
}

func TestWhereReadingStops(t *testing.T) {
	all := [][]byte{[]byte("a"), bytesOf(1000, 2), []byte("c")}
	nexts := []uint64{0, 1, 4, 5}
	for _, row := range stops() {
		d, _ := device(t, 256)
		putRecord(t, d, putRecord(t, d, putRecord(t, d, 0, 3, all[0]), 4, all[1]), 4, all[2])
		row.lay(t, d)
		w, records := mustOpen(t, row.name, d, 0, 3, 5)
		if !sameRecords(records, all[:row.want]) || w.Next() != nexts[row.want] {
			t.Errorf("P7.1: %s: %d records, Next %d; want %d, Next %d", row.name, len(records), w.Next(), row.want, nexts[row.want])
		}
		holdOpen(t, row.name, d, 0, 3, 5)
		holdEachBad(t, row.name, d, 0, 3, 5)
	}
}

// holdEachBad makes each sector of the ring bad in its turn: that is told where it is looked at, and changes nothing else. (A bad one may end the reading later than what it was: the plain opening knows.)
func holdEachBad(t *testing.T, what string, d *disk.Disk, from, least, age uint64) {
	t.Helper()
	was := plainOpen(t, d, from, least, age)
	for i := range ring {
		bad := d.Fork()
		b, _ := bad.Read(ringAt + int((from+uint64(i))%ring))
		b[i] ^= 4
		bad.Write(ringAt+int((from+uint64(i))%ring), b)
		got := holdOpen(t, what+", sector "+strconv.Itoa(i)+" bad", bad, from, least, age)
		if was.err == api.OK && (got.err == api.ErrBad) != (i < was.looked) {
			t.Errorf("P7.1: %s: sector %d of %d that are looked at is bad: error %d", what, i, was.looked, got.err)
		}
	}
}

// Ages between records: from least on, each at least that of the one ahead, and below the opening's.
func TestAges(t *testing.T) {
	for choice := range 4 * 4 * 4 {
		ages := []uint64{uint64(choice % 4), uint64(choice / 4 % 4), uint64(choice / 16)}
		d, _ := device(t, 256)
		for i, age := range ages {
			putRecord(t, d, uint64(i), age, []byte{byte(i)})
		}
		for least := range uint64(5) {
			for age := max(least, 1); age < 6; age++ {
				want, p := 0, least
				for _, a := range ages {
					if a < p || a >= age {
						break
					}
					want, p = want+1, a
				}
				if _, records := mustOpen(t, "P7.1: ages", d, 0, least, age); len(records) != want {
					t.Errorf("P7.1: ages %v, Open(.., %d, %d): %d records; want %d", ages, least, age, len(records), want)
				}
				holdOpen(t, "ages", d, 0, least, age)
			}
		}
	}
}

// A record that begins, but would end LogSize or more above from, is none, and no sector is looked at twice.
func TestReadingEndsOnceRoundTheRing(t *testing.T) {
	for _, from := range []uint64{0, 1, 17, 29, 30, 1<<32 + 5, most} {
		for _, sizes := range [][]int{{8192, 4840}, {8192, 4841}, {8192, 4400, 0}, {8192, 4400, 441}, {13200 - 8192, 8192}, {440, 440, 8192, 3960}, {440, 440, 8192, 3961}} {
			d, _ := device(t, 256)
			turn, want := from, 0
			for i, n := range sizes {
				of := sectorsOf(n)
				whole := turn+uint64(of) <= from+ring
				for k := range of {
					if at := turn + uint64(k); at < from+ring {
						putFrame(t, d, at, api.Frame{Age: 1, First: turn, Of: of, Data: bytesOf(n, i)[k*frameMost : min((k+1)*frameMost, n)]})
					}
				}
				if turn += uint64(of); whole {
					want++
				}
			}
			w, records := mustOpen(t, "P7.1: a full ring", d, from, 1, 2)
			if len(records) != want || w.Left() < 0 {
				t.Errorf("P7.1: from %d, records of %v bytes: %d, Left %d; want %d", from, sizes, len(records), w.Left(), want)
			}
			holdOpen(t, "a full ring", d, from, 1, 2)
			holdEachBad(t, "a full ring", d, from, 1, 2)
		}
	}
}

// Frames that are alike, of as many as a frame may say, but of more than a record has: none is told, and all of them are looked at.
func TestFramesThatAreNoRecord(t *testing.T) {
	for _, of := range []int{19, 20, 29, 30, 31, 32} {
		d, _ := device(t, 256)
		for i := range min(of, ring) {
			putFrame(t, d, uint64(i), api.Frame{Age: 1, First: 0, Of: of, Data: bytesOf(frameMost, i)})
		}
		if _, records := mustOpen(t, "P7.1: no record", d, 0, 0, 2); len(records) != 0 {
			t.Errorf("P7.1: %d frames of 440 bytes: %d records", of, len(records))
		}
		if looked := plainOpen(t, d, 0, 0, 2).looked; looked != min(of, ring) {
			t.Errorf("P7.1: %d frames of 440 bytes: %d are looked at", of, looked)
		}
		holdOpen(t, "no record", d, 0, 0, 2)
		for i := range min(of, ring) {
			bad := d.Fork()
			bad.Flush()
			bad.Flip(ringAt+i, 99)
			refusedOpen(t, "P7.1: frame "+strconv.Itoa(i)+" of "+strconv.Itoa(of)+" is bad", bad, must(layout.Plan(256)), 0, 0, 2, api.ErrBad)
		}
	}
}

func must(l api.Layout, _ api.Errno) api.Layout { return l }

// anyRing lays sectors with all kinds of faults, most of them as a log would.
func anyRing(t *testing.T, d *disk.Disk, from uint64, pick func(n int) int) {
	age, turn := uint64(1+pick(3)), from
	for turn < from+ring {
		age += uint64(pick(5) / 4)
		turn = putRecord(t, d, turn, age, bytesOf([]int{0, 1, 440, 441, 900, 2000}[pick(6)], pick(9)))
	}
	for range pick(3) {
		at := from + uint64(pick(ring))
		f := api.Frame{Age: uint64(pick(8)), First: at - uint64(pick(2)*pick(3)), Of: 1 + pick(3), Data: bytesOf([]int{0, 1, 440}[pick(3)], 1)}
		switch pick(5) {
		case 0:
			d.Write(layoutAt(at), make([]byte, 512))
		case 1:
			b, _ := d.Read(layoutAt(at))
			b[pick(512)] ^= 1 << pick(8)
			d.Write(layoutAt(at), b)
		case 2:
			put(t, d, api.KindLog, at, at+ring, []byte{1, 1, 1})
		default:
			putFrame(t, d, at, f)
		}
	}
}

func layoutAt(turn uint64) int { return ringAt + int(turn%ring) }

func TestAnyRing(t *testing.T) {
	bad, read, stopped := 0, 0, 0
	for seed := range uint32(6000) {
		pick := chance(seed)
		d, _ := device(t, 256)
		from := []uint64{1, 7, 29, 60, 1 << 40, most}[pick(6)]
		anyRing(t, d, from, pick)
		got := holdOpen(t, "any ring "+strconv.Itoa(int(seed)), d, from, uint64(pick(4)), uint64(4+pick(12)))
		switch {
		case got.err != api.OK:
			bad++
		case got.looked < ring:
			stopped++
		}
		read += len(got.records)
	}
	if bad < 200 || stopped < 200 || read < 10000 {
		t.Errorf("%d rings were bad, %d ended the reading, %d records were read: too few of one to tell", bad, stopped, read)
	}
}

// Open writes nothing: what waits, what is shown and what is armed stand, whatever it answers.
func TestOpenWritesNothing(t *testing.T) {
	for seed := range uint32(200) {
		pick := chance(seed)
		d, l := device(t, 256)
		anyRing(t, d, 30, pick)
		if seed%2 == 0 {
			d.Flush()
		}
		waiting, was := d.Waiting(), shown(t, d)
		d.Arm(1)
		wal.Open(d, l, 30, 0, 9)
		wal.Open(d, l, 31, 3, 2)
		if d.Down() || d.Waiting() != waiting || !sameRecords(shown(t, d), was) {
			t.Fatalf("P7.1: an Open wrote: ring %d", seed)
		}
		answers(t, "P7.1: the write behind an Open is still the first", d.Write(0, make([]byte, 512)), api.ErrDown)
	}
}

// The greatest device: each of the 8190 sectors of its log has a turn, far up too.
func TestGreatestLog(t *testing.T) {
	d, l := device(t, 65536)
	for _, from := range []uint64{0, most - 4000, most} {
		w, _ := mustOpen(t, "P7.1: the greatest log", d, from, 1, 1)
		var want [][]byte
		for w.Left() > 0 {
			record := bytesOf(min(recordMost, w.Left()*frameMost), len(want))
			if e := w.Append(record); e != api.OK {
				t.Fatalf("P7.2: Append to the greatest log: error %d", e)
			}
			want = append(want, record)
		}
		stands(t, "P7.3: the greatest log, full", w, from, from+8190, 1, 0)
		w, records := mustOpen(t, "P7.1: the greatest log, full", d, from, 1, 2)
		if !sameRecords(records, want) {
			t.Errorf("P7.1: the greatest log: %d records; want %d", len(records), len(want))
		}
		stands(t, "P7.1: the greatest log, full", w, from, from+8190, 1, 0)
		if d.Write(l.Log, make([]byte, 512)) != api.OK || d.Flush() != api.OK {
			t.Error("disk.Write")
		}
	}
}
