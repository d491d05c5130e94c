package batch_test

import (
	"bytes"
	"slices"
	"strings"
	"testing"

	"dunnage/api"
	"dunnage/batch"
)

// eachBytes tells all rows of up to size of these bytes behind ahead.
func eachBytes(ahead, edges []byte, size int, tell func(b []byte)) {
	tell(ahead)
	if size == 0 {
		return
	}
	for _, c := range edges {
		eachBytes(append(slices.Clone(ahead), c), edges, size-1, tell)
	}
}

// 'What follows': what is read, written again, is the same bytes; all that is not read is refused as the words say.
func TestReadOfAllShortRows(t *testing.T) {
	edges := []byte{0, 1, 2, 9, 0x20, 0x21, 0x41, 0x61, 0x80, 0xff}
	count := map[api.Errno]int{}
	for _, ahead := range []string{"", "01", "02", "01 01 01 01", "01 01 02 01 61", "01 01 01 01 61 00", "01 01 02 01 61 01 01", "01 01 02 01 61 00 01 01 01 01 62", "02 01", "02 01 80 80 04", "02 01 00 80 80"} {
		eachBytes(raw(t, ahead), edges, 5, func(b []byte) { count[holdRead(t, b)]++ })
	}
	for _, e := range []api.Errno{api.OK, api.ErrShort, api.ErrForm, api.ErrLarge} {
		if count[e] < 100 {
			t.Errorf("of these rows only %d were answered with error %d", count[e], e)
		}
	}
}

// Each byte of each record is turned into each other one, taken away, or doubled.
func TestReadOfTurnedBytes(t *testing.T) {
	for _, r := range records() {
		b := plainBytes(r)
		step := 1 + len(b)/60 // of the longest records some bytes
		for at := 0; at < len(b); at += step {
			for c := range 256 {
				turned := slices.Clone(b)
				turned[at] = byte(c)
				holdRead(t, turned)
			}
			holdRead(t, slices.Delete(slices.Clone(b), at, at+1))
			holdRead(t, slices.Insert(slices.Clone(b), at, b[at]))
		}
	}
}

// anyRecord is a record, which mostly may be.
func anyRecord(c *chance) api.Record {
	if c.next(4) == 0 {
		return moveOf(uint64(c.next(400)), c.next(placeMost+2), c.next(placeMost+2), c.next(partsMost+2))
	}
	r := batchOf(uint64(c.next(300)))
	key := ""
	for range c.next(opsMost + 2) {
		key = key[:c.next(len(key)+1)] + strings.Repeat(string(rune('a'+c.next(26))), 1+c.next(9))
		if c.next(3) == 0 {
			r.Changes = append(r.Changes, gone(key))
		} else {
			r.Changes = append(r.Changes, ref(key, uint64(c.next(900)), c.next(placeMost+1), c.next(valueMost+1)))
		}
	}
	if c.next(10) > 0 {
		slices.SortFunc(r.Changes, func(a, b api.Change) int { return stands(a.Key, b.Key) })
	}
	return r
}

func TestAnyRecords(t *testing.T) {
	c := chance(1)
	may := 0
	for range 20000 {
		r := anyRecord(&c)
		if holdRecord(t, r) {
			may++
		}
		b := plainBytes(r)
		if got, e := batch.Read(b); plainMay(r) && (e != api.OK || !sameRecord(got, r)) {
			t.Fatalf("what follows: %+v, written and read: %+v, error %d", r, got, e)
		}
		holdRead(t, b)
		b[c.next(len(b))] ^= 1 << c.next(8)
		holdRead(t, b)
	}
	if may < 2000 || may > 19000 {
		t.Errorf("%d of 20000 records may be: too few, or too many, to tell", may)
	}
}

// R3: what Read is given, with the room behind it, stays, and is not kept.
func TestReadSharesNothing(t *testing.T) {
	for _, r := range records() {
		b := plainBytes(r)
		all := append(slices.Clone(b), bytes.Repeat([]byte{0xa5}, 200)...)
		was := slices.Clone(all)
		for n := range len(b) + 1 {
			got, e := batch.Read(all[:n])
			if !bytes.Equal(all, was) {
				t.Fatalf("R3: Read of %x changed what it was given", b[:n])
			}
			if n < len(b) {
				continue
			}
			for i := range all {
				all[i] ^= 0xff
			}
			if e != api.OK || !sameRecord(got, r) {
				t.Errorf("R3: who writes into what Read was given changes %+v: %+v", r, got)
			}
		}
	}
}

// R3: what May and Write are given, with the room behind the changes, stays.
func TestWriteSharesNothing(t *testing.T) {
	for _, r := range append(records(), deletes(0), deletes(33)) {
		in := r
		all := append(slices.Clone(r.Changes), gone("behind"))
		in.Changes = all[:len(r.Changes)]
		batch.May(in)
		first, _ := batch.Write(in)
		second, _ := batch.Write(in)
		if !sameRecord(in, r) || all[len(r.Changes)] != gone("behind") {
			t.Errorf("R3: May or Write changed %+v: %+v", r, in)
		}
		want := slices.Clone(first)
		room := first[:cap(first)]
		for i := range room {
			room[i] ^= 0xff
		}
		if !bytes.Equal(second, want) || !sameRecord(in, r) {
			t.Errorf("R3: who writes into what Write answered of %+v changes something else", r)
		}
	}
}

// R2: what was read ahead changes no answer.
func TestReadOfTwoRecords(t *testing.T) {
	for _, r := range records() {
		first, _ := batch.Read(plainBytes(r))
		for _, o := range records() {
			second, _ := batch.Read(plainBytes(o))
			for i := range second.Changes {
				second.Changes[i] = gone("turned")
			}
			if !sameRecord(first, r) {
				t.Fatalf("R3: who writes into one record that was read changes another one: %+v", first)
			}
		}
	}
}
