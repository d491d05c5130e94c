package batch_test

import (
	"math"
	"slices"
	"strings"
	"testing"

	"dunnage/api"
	"dunnage/batch"
)

// holdRead holds Read of b against the words; who has read it is written again as the same bytes.
func holdRead(t *testing.T, b []byte) api.Errno {
	t.Helper()
	want, wantE := plainRead(b)
	r, e := batch.Read(b)
	if e != wantE || !sameRecord(r, want) {
		t.Fatalf("P10.2: Read(%x): %+v, error %d; want %+v, error %d", b, r, e, want, wantE)
	}
	if e != api.OK {
		return e
	}
	if !batch.May(r) {
		t.Fatalf("P10.2: Read(%x): %+v, which may not be", b, r)
	}
	if again, e := batch.Write(r); e != api.OK || string(again) != string(b) {
		t.Fatalf("what follows: %x, read and written again: %x, error %d", b, again, e)
	}
	return api.OK
}

// refused holds that Read of b is refused so, with a zero record.
func refused(t *testing.T, what string, b []byte, want api.Errno) {
	t.Helper()
	if r, e := batch.Read(b); e != want || !sameRecord(r, api.Record{}) {
		t.Errorf("P10.2: Read(%x) (%s): %+v, error %d; want error %d", b, what, r, e, want)
	}
}

// 'What follows': what is written is read.
func TestWhatIsWrittenIsRead(t *testing.T) {
	for _, r := range records() {
		b, e := batch.Write(r)
		if e != api.OK {
			t.Fatalf("P10.2: Write(%+v): error %d", r, e)
		}
		if got, e := batch.Read(b); e != api.OK || !sameRecord(got, r) {
			t.Errorf("what follows: %+v, written and read: %+v, error %d", r, got, e)
		}
		holdRead(t, b)
	}
}

func TestReadOfShorterAndLongerRows(t *testing.T) {
	for _, r := range records() {
		b := plainBytes(r)
		for n := range b {
			refused(t, "a shorter row", b[:n], api.ErrShort)
			// What lies behind the end is not read.
			refused(t, "a shorter row, a nearer end", slices.Clip(b[:n]), api.ErrShort)
		}
		for _, c := range []byte{0, 1, 2, 0x7f, 0x80, 0xff} {
			refused(t, "a byte more", append(slices.Clone(b), c), api.ErrForm)
		}
		refused(t, "twice", append(slices.Clone(b), b...), api.ErrForm)
	}
	refused(t, "nil", nil, api.ErrShort)
	refused(t, "no bytes", []byte{}, api.ErrShort)
}

func TestReadOfKinds(t *testing.T) {
	for _, r := range records()[:15] {
		for kind := range 256 {
			b := plainBytes(r)
			b[0] = byte(kind)
			holdRead(t, b)
			if kind != api.RecBatch && kind != api.RecMove {
				refused(t, "no kind", b, api.ErrForm)
				refused(t, "no kind, and nothing behind", b[:1], api.ErrForm)
			}
		}
	}
}

// Of each number of a record, of the lengths of its keys, too: another form of it, and one that is none.
func TestReadOfNumbersInOtherForms(t *testing.T) {
	for _, r := range records() {
		l, numerals := parts(r)
		for i, is := range numerals {
			if !is {
				continue
			}
			other := slices.Clone(l)
			v := uint64(0)
			for k, c := range l[i] {
				v |= uint64(c&0x7f) << (7 * k)
			}
			ahead := slices.Concat(l[:i]...)
			if v < 1<<63 { // ten bytes have no eleventh
				other[i] = longer(v)
				refused(t, "a number in another form", slices.Concat(other...), api.ErrForm)
				refused(t, "a number in another form, and nothing behind", append(slices.Clone(ahead), longer(v)...), api.ErrForm)
			}
			other[i] = append(slices.Repeat([]byte{0xff}, 9), 2)
			refused(t, "a tenth byte above 1", slices.Concat(other...), api.ErrForm)
			refused(t, "a number without an end", append(ahead, slices.Repeat([]byte{0xff}, 9)...), api.ErrShort)
		}
	}
}

// The byte of a Delete is 0 or 1, and no number: its highest bit does not ask for another byte.
func TestReadOfTheBytesOfDeletes(t *testing.T) {
	for c := range 256 {
		ahead := append(raw(t, "01 07 02 01 61"), byte(c))
		if c > 1 {
			refused(t, "no byte of a Delete", ahead, api.ErrForm)
			for _, behind := range []string{"01", "00", "01 62 01", "02 03 04 01 62 01", "80 00", "41", "ff"} {
				refused(t, "no byte of a Delete, and more", append(slices.Clone(ahead), raw(t, behind)...), api.ErrForm)
			}
		}
		holdRead(t, append(slices.Clone(ahead), raw(t, "01 62 01")...))
		holdRead(t, append(slices.Clone(ahead), raw(t, "02 03 04 01 62 01")...))
	}
}

func TestReadOfCounts(t *testing.T) {
	for n := range uint64(300) {
		b := append([]byte{1, 7}, number(n)...)
		switch {
		case n == 0:
			refused(t, "no changes", b, api.ErrForm)
		case n <= opsMost:
			refused(t, "changes that are missing", b, api.ErrShort)
		default:
			refused(t, "too many changes", b, api.ErrForm)
			refused(t, "too many changes, and another fault", append(b, 0x41), api.ErrForm)
		}
		holdRead(t, b)
	}
	for n := 1; n <= 70; n++ {
		if e := holdRead(t, plainBytes(deletes(n))); (e == api.OK) != (n <= opsMost) {
			t.Errorf("P10.2: Read of %d changes: error %d", n, e)
		}
	}
	for _, n := range []uint64{1 << 32, 1<<32 + 1, 1 << 62, 1<<62 + 1, 1<<63 + 1, math.MaxUint64} {
		refused(t, "very many changes", append([]byte{1, 7}, number(n)...), api.ErrForm)
	}
}

func TestReadOfKeys(t *testing.T) {
	for n := range uint64(300) {
		key := strings.Repeat("k", int(n))
		b := slices.Concat([]byte{1, 7, 1}, number(n), []byte(key), []byte{1})
		want := api.OK
		if n == 0 {
			want = api.ErrForm
		} else if n > keyMost {
			want = api.ErrLarge
		}
		if e := holdRead(t, b); e != want {
			t.Errorf("P10.2: Read of a key of %d bytes: error %d; want %d", n, e, want)
		}
	}
	for _, n := range []uint64{65, 1 << 32, 1<<32 + 1, 1 << 62, 1 << 63, 1<<63 + 1, math.MaxUint64} {
		refused(t, "a key that is too long", append([]byte{1, 7, 1}, number(n)...), api.ErrLarge)
		refused(t, "a key that is too long, and more", append([]byte{1, 7, 1}, append(number(n), 0x80, 0)...), api.ErrLarge)
	}
}

func TestReadOfKeysThatDoNotRise(t *testing.T) {
	for _, rest := range []string{"01 62 01 01 61 01", "01 61 01 01 61 01", "02 61 00 01 01 61 01", "01 80 01 01 7f 01", "01 62 00 01 02 03 01 61 01", "00 01 01 61 01", "01 61 01 00 01"} {
		refused(t, "keys that do not rise", append(raw(t, "01 07 02"), raw(t, rest)...), api.ErrForm)
		refused(t, "keys that do not rise, and a byte more", append(raw(t, "01 07 02"), raw(t, rest+"00")...), api.ErrForm)
	}
}

// numerals are numbers about each bound that one of a record has, and those at which a conversion would wrap.
func numerals() []uint64 {
	l := []uint64{127, 128, 300, 1 << 31, 1 << 32, 1<<32 + 1, 1<<32 + 9}
	for _, bound := range []uint64{1, partsMost, valueMost, placeMost, 1 << 62, 1 << 63} {
		l = append(l, bound-1, bound, bound+1)
	}
	return append(l, math.MaxUint64-1, math.MaxUint64)
}

// An At or Len above 2^62 is ErrForm there, whatever follows; else it is held against its bound when all is read.
func TestReadOfRefs(t *testing.T) {
	for _, v := range numerals() {
		large := v > 1<<62
		// Each row: what stands ahead of the number, whether it may be too great, what stands behind it, the bounds.
		rows := []struct {
			ahead, behind string
			there         bool
			lo, hi        uint64
		}{
			{"01 07 01 01 61 00", "02 03", false, 1, math.MaxUint64}, // Serial
			{"01 07 01 01 61 00 05", "03", true, 0, placeMost},       // At
			{"01 07 01 01 61 00 05 03", "", true, 0, valueMost},      // Len
			{"01", "01 01 61 01", false, 1, math.MaxUint64},          // Seq
			{"02", "02 03 04", false, 1, math.MaxUint64},             // Serial of a move
			{"02 05", "04 02", true, 0, placeMost},                   // From (4 is To)
			{"02 05 04", "02", true, 0, placeMost},                   // To (4 is From)
			{"02 05 04 03", "", true, 1, partsMost},                  // N
		}
		for _, r := range rows {
			b := append(raw(t, r.ahead), number(v)...)
			whole := append(slices.Clone(b), raw(t, r.behind)...)
			want := api.OK
			if v < r.lo || v > r.hi {
				want = api.ErrForm
			}
			if e := holdRead(t, whole); e != want {
				t.Errorf("P10.2: Read(%x), of the number %d: error %d; want %d", whole, v, e, want)
			}
			if r.behind == "" {
				continue
			}
			want = api.ErrShort
			if r.there && large {
				want = api.ErrForm
			}
			refused(t, "a number, and nothing behind", b, want)
			holdRead(t, b)
		}
	}
}

// A Len above 2^62 is ErrForm there, ahead of the changes that follow; at 2^62 these are read first.
func TestReadOfALenAheadOfAChange(t *testing.T) {
	for _, v := range numerals() {
		b := append(raw(t, "01 07 02 01 61 00 05 03"), number(v)...)
		want := api.ErrLarge
		if v > 1<<62 {
			want = api.ErrForm
		}
		refused(t, "a Len, and a key that is too long", append(slices.Clone(b), 65), want)
		holdRead(t, b)
	}
}

// A record that may not be is told when all was read: the readers' errors come first.
func TestReadTellsTheReadersErrorsFirst(t *testing.T) {
	rows := []struct {
		b string
		e api.Errno
	}{
		{"01 00", api.ErrShort},                         // Seq 0
		{"01 00 01 41", api.ErrLarge},                   // Seq 0, a long key
		{"01 00 01 01 61", api.ErrShort},                // Seq 0
		{"01 07 02 00 01", api.ErrShort},                // an empty key
		{"01 07 02 00 01 41", api.ErrLarge},             // an empty key, a long key
		{"01 07 03 01 62 01 01 61 01", api.ErrShort},    // keys that do not rise
		{"01 07 03 01 62 01 01 61 01 41", api.ErrLarge}, // likewise, a long key
		{"01 07 01 01 61 00 00", api.ErrShort},          // Serial 0
		{"01 07 01 01 61 00 01 81 80 04", api.ErrShort}, // At 65537
		{"01 07 02 01 61 00 01 02 81 20", api.ErrShort}, // Len 4097
		{"02 00", api.ErrShort},                         // Serial 0
		{"02 05 81 80 04", api.ErrShort},                // From 65537
		{"02 05 09 09", api.ErrShort},                   // From and To alike
	}
	for _, r := range rows {
		refused(t, "a record that may not be, and a reader's error", raw(t, r.b), r.e)
	}
}

func TestReadRefused(t *testing.T) {
	rows := []struct {
		b string
		e api.Errno
	}{
		{"00", api.ErrForm}, {"03", api.ErrForm}, {"80", api.ErrForm}, {"81 00", api.ErrForm}, {"ff", api.ErrForm},
		{"01", api.ErrShort}, {"02", api.ErrShort}, {"01 80", api.ErrShort}, {"01 80 00", api.ErrForm},
		{"01 00 01 01 61 01", api.ErrForm},          // Seq 0
		{"01 07 00", api.ErrForm},                   // no changes
		{"01 07 00 00", api.ErrForm},                // likewise
		{"01 07 01 00 01", api.ErrForm},             // an empty key
		{"01 07 01 01 61 00 00 02 03", api.ErrForm}, // Serial 0
		{"01 07 01 01 61 01 05 02 03", api.ErrForm}, // a Delete with a Ref: bytes are left
		{"01 07 01 01 61 01 00 00 00", api.ErrForm},
		{"02 00 09 02 03", api.ErrForm},          // Serial 0
		{"02 05 09 09 03", api.ErrForm},          // From and To alike
		{"02 05 09 02 00", api.ErrForm},          // N 0
		{"02 05 09 02 0a", api.ErrForm},          // N 10
		{"02 05 81 80 04 02 03", api.ErrForm},    // From 65537
		{"02 05 09 81 80 04 03", api.ErrForm},    // To 65537
		{"02 00 05 09 02 03", api.ErrForm},       // a Seq is no part of a move
		{"02 05 09 02 03 00", api.ErrForm},       // a byte is left
		{"02 05 09 02 03 80", api.ErrForm},       // likewise
		{"01 07 01 01 61 01 01 62", api.ErrForm}, // a change more than was told
	}
	for _, r := range rows {
		refused(t, "a row", raw(t, r.b), r.e)
		holdRead(t, raw(t, r.b))
	}
}
