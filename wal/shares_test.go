package wal_test

import (
	"bytes"
	"testing"

	"dunnage/api"
	"dunnage/layout"
	"dunnage/wal"
)

// spoil writes into b and into the room behind it.
func spoil(b []byte) {
	b = b[:cap(b)]
	for i := range b {
		b[i] ^= 0xff
	}
}

// R3: what is appended, with the room behind it, is not changed and not kept.
func TestAppendSharesNothing(t *testing.T) {
	for _, n := range append(lengths(), 8193) {
		d, _ := device(t, 256)
		w, _ := mustOpen(t, "R3", d, 0, 0, 1)
		all := append(bytesOf(n, 4), bytes.Repeat([]byte{0xa5}, 1000)...)
		was := bytes.Clone(all)
		e := w.Append(all[:n])
		if !bytes.Equal(all, was) {
			t.Fatalf("R3: Append of %d bytes wrote into what it was given", n)
		}
		if e != api.OK {
			continue
		}
		spoil(all)
		if _, records := mustOpen(t, "R3", d, 0, 0, 2); !sameRecords(records, [][]byte{was[:n]}) {
			t.Fatalf("R3: who writes into what Append was given (%d bytes) changes what it wrote", n)
		}
	}
}

// R3: no bytes and nil are the same record.
func TestAppendOfNothing(t *testing.T) {
	d, _ := device(t, 256)
	w, _ := mustOpen(t, "R3", d, 0, 0, 1)
	other := d.Fork()
	v, _ := mustOpen(t, "R3", other, 0, 0, 1)
	if w.Append(nil) != api.OK || v.Append([]byte{}) != api.OK || !sameRecords(shown(t, d), shown(t, other)) {
		t.Error("R3: Append(nil) is not that of no bytes")
	}
}

// R3: who writes into what Open told changes nothing else: no other record of it, not the disk, not the log.
func TestOpenSharesNothing(t *testing.T) {
	d, _ := device(t, 256)
	w, _ := mustOpen(t, "R3", d, 0, 0, 1)
	var want [][]byte
	for i, n := range []int{0, 1, 440, 441, 900, 0, 3} {
		w.Append(bytesOf(n, i))
		want = append(want, bytesOf(n, i))
	}
	for i := range want {
		v, records := mustOpen(t, "R3", d, 0, 0, 2)
		spoil(records[i])
		records = records[:cap(records)]
		for k := range want {
			if k != i && !bytes.Equal(records[k], want[k]) {
				t.Errorf("R3: who writes into record %d changes record %d", i, k)
			}
		}
		clear(records)
		stands(t, "R3: behind writing into the records", v, 0, w.Next(), 1, w.Left())
		if _, again := mustOpen(t, "R3", d, 0, 0, 2); !sameRecords(again, want) {
			t.Errorf("R3: who writes into record %d changes what is told again", i)
		}
	}
}

// R2: logs of two disks have nothing in common, though one disk was forked from the other.
func TestLogsOfTwoDisks(t *testing.T) {
	d, w := aged(t, 3)
	other := d.Fork()
	v, _ := mustOpen(t, "R2", other, 3, 2, 10)
	was := shown(t, d)
	for range ring {
		v.Append(bytesOf(441, 1))
	}
	v.Free(v.Next())
	other.Crash()
	v.Sync()
	stands(t, "R2: beside another log", w, 3, 10, 2, ring-7)
	if d.Down() || !sameRecords(shown(t, d), was) {
		t.Error("R2: what is appended on one disk is seen on another")
	}
	answers(t, "R2: Append beside another log", w.Append(nil), api.OK)
	answers(t, "R2: Sync beside another log", w.Sync(), api.OK)
}

// 'What follows': a log that is opened twice with nothing in between has the same records, whatever ages the openings have, and whether anything waits.
func TestOpenedTwice(t *testing.T) {
	for seed := range uint32(300) {
		d, l := device(t, 256)
		from := uint64(seed)
		anyRing(t, d, from, chance(seed))
		if seed%3 == 0 {
			d.Flush()
		}
		w, records, e := wal.Open(d, l, from, 1, 20)
		for _, age := range []uint64{20, 20, 21, 500} {
			v, again, f := wal.Open(d, l, from, 1, age)
			if e != f || !sameRecords(records, again) || v.Next() != w.Next() {
				t.Fatalf("what follows: ring %d, opened again with the age %d: %d records, error %d; want %d, error %d", seed, age, len(again), f, len(records), e)
			}
		}
		if e != api.OK {
			continue
		}
		if _, again := mustOpen(t, "what follows", d, w.First(), w.Least(), 21); !sameRecords(records, again) {
			t.Fatalf("what follows: ring %d, opened again with the log's First and Least: %d records; want %d", seed, len(again), len(records))
		}
	}
}

// The log's own sectors alone are written, in all that it does.
func TestOnlyTheLogsSectors(t *testing.T) {
	for _, sectors := range []int{256, 263, 1000} {
		d, l := device(t, sectors)
		for at := range sectors {
			d.Write(at, bytesOf(512, at))
		}
		was := shown(t, d)
		for at := l.Log; at < l.Log+l.LogSize; at++ {
			d.Write(at, make([]byte, 512))
		}
		w, _ := mustOpen(t, "P7.2", d, 7, 0, 1)
		for i := range 3 * l.LogSize {
			if w.Append(bytesOf(i%900, i)) == api.ErrFull {
				w.Sync()
				w.Free(w.Next())
			}
		}
		for at, b := range shown(t, d) {
			if layout.Region(l, at) != api.RegLog && !bytes.Equal(b, was[at]) {
				t.Errorf("P7.2: the sector %d of %d is written", at, sectors)
			}
		}
	}
}
