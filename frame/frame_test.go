package frame_test

import (
	"bytes"
	"encoding/hex"
	"math"
	"testing"

	"dunnage/api"
	"dunnage/frame"
)

func raw(t *testing.T, s string) []byte {
	t.Helper()
	b, err := hex.DecodeString(s)
	if err != nil {
		t.Fatal(err)
	}
	return b
}

func TestCount(t *testing.T) {
	rows := []struct{ n, want int }{
		{math.MinInt, 0},
		{-441, 0},
		{-440, 0},
		{-1, 0},
		{0, 1},
		{1, 1},
		{439, 1},
		{440, 1},
		{441, 2},
		{880, 2},
		{881, 3},
		{8192, 19},
		{8193, 19},
		{14080, 32},
		{14081, 33},
		{math.MaxInt - 439, 20962209174669945},
		{math.MaxInt - 1, 20962209174669946},
		{math.MaxInt, 20962209174669946},
	}
	for _, r := range rows {
		if got := frame.Count(r.n); got != r.want {
			t.Errorf("P6.1: Count(%d): %d; want %d", r.n, got, r.want)
		}
	}
}

func TestCountAroundMultiples(t *testing.T) {
	for k := 1; k <= 1000; k++ {
		for n := (k-1)*dataMost + 1; n <= k*dataMost; n++ {
			if got := frame.Count(n); got != k {
				t.Fatalf("P6.1: Count(%d): %d; want %d", n, got, k)
			}
		}
	}
}

func TestWrite(t *testing.T) {
	rows := []struct {
		f    api.Frame
		want string
	}{
		{api.Frame{Age: 2, First: 7, Of: 2, Data: []byte{9}}, "02070209"},
		{api.Frame{Of: 1}, "000001"},
		{api.Frame{Of: 1, Data: []byte{}}, "000001"},
		{api.Frame{Age: 300, First: 128, Of: 32, Data: []byte("ab")}, "ac028001206162"},
		{api.Frame{Age: math.MaxUint64, First: 1 << 63, Of: 19}, "ffffffffffffffffff018080808080808080800113"},
	}
	for _, r := range rows {
		if b, e := frame.Write(r.f); e != api.OK || hex.EncodeToString(b) != r.want {
			t.Errorf("P6.1: Write(%+v): %x, error %d; want %s", r.f, b, e, r.want)
		}
	}
}

// Of each frame that may be: what Write makes is the words' bytes, and Read leads back.
func TestThereAndBack(t *testing.T) {
	for _, age := range numerals() {
		for _, first := range numerals() {
			for of := 1; of <= ofMost; of++ {
				for _, n := range []int{0, 1, 127, 128, 439, 440} {
					f := api.Frame{Age: age, First: first, Of: of, Data: bytesOf(n)}
					want := plainBytes(age, first, uint64(of), bytesOf(n))
					b, e := frame.Write(f)
					if e != api.OK || !bytes.Equal(b, want) {
						t.Fatalf("P6.1: Write of age %d, first %d, of %d, %d bytes: %x, error %d", age, first, of, n, b, e)
					}
					if got, e := frame.Read(want); e != api.OK || !sameFrame(got, f) {
						t.Fatalf("P6.1: Read of age %d, first %d, of %d, %d bytes: %+v, error %d", age, first, of, n, got, e)
					}
				}
			}
		}
	}
}

func TestWriteRefused(t *testing.T) {
	for _, of := range []int{math.MinInt, -32, -1, 0, 33, 64, 256, 257, math.MaxInt} {
		for _, n := range []int{0, 1, 440, 441} {
			if b, e := frame.Write(api.Frame{Age: 1, First: 1, Of: of, Data: bytesOf(n)}); e != api.ErrForm || len(b) != 0 {
				t.Errorf("P6.1: Write of %d frames, %d bytes: %x, error %d; want ErrForm", of, n, b, e)
			}
		}
	}
	for _, n := range []int{441, 442, 475, 496, 512, 8192} {
		for of := 1; of <= ofMost; of++ {
			if b, e := frame.Write(api.Frame{Of: of, Data: bytesOf(n)}); e != api.ErrForm || len(b) != 0 {
				t.Errorf("P6.1: Write of %d frames, %d bytes: %x, error %d; want ErrForm", of, n, b, e)
			}
		}
	}
}

func TestReadRefused(t *testing.T) {
	rows := []struct {
		b string
		e api.Errno
	}{
		{"", api.ErrShort},
		{"01", api.ErrShort},
		{"0101", api.ErrShort},
		{"80", api.ErrShort},
		{"0180", api.ErrShort},
		{"010180", api.ErrShort},
		{"ffffffffffffffffff", api.ErrShort},
		{"0101a1", api.ErrShort}, // above 32 already, but not at its end
		{"8000", api.ErrForm},
		{"800001", api.ErrForm},
		{"018000", api.ErrForm},
		{"01018000", api.ErrForm},
		{"0101a000", api.ErrForm}, // 32 in another form
		{"01018100", api.ErrForm},
		{"ffffffffffffffffff02", api.ErrForm},
		{"01ffffffffffffffffff02", api.ErrForm},
		{"0101ffffffffffffffffff02", api.ErrForm},
		{"010100", api.ErrForm},
		{"01010009", api.ErrForm},
		{"010121", api.ErrForm},
		{"01017f", api.ErrForm},
		{"01018001", api.ErrForm},
		{"0101818080801009", api.ErrForm},           // 2^32 + 1
		{"0101ffffffffffffffff7f", api.ErrForm},     // 2^63 - 1
		{"010180808080808080808001", api.ErrForm},   // 2^63
		{"010181808080808080808001", api.ErrForm},   // 2^63 + 1
		{"0101ffffffffffffffffff0109", api.ErrForm}, // 2^64 - 1
	}
	for _, r := range rows {
		if f, e := frame.Read(raw(t, r.b)); e != r.e || !sameFrame(f, api.Frame{}) {
			t.Errorf("P6.1: Read(%s): %+v, error %d; want error %d", r.b, f, e, r.e)
		}
	}
	if f, e := frame.Read(nil); e != api.ErrShort || !sameFrame(f, api.Frame{}) {
		t.Errorf("P6.1: Read of nothing: %+v, error %d; want ErrShort", f, e)
	}
}

func TestReadOfEachLength(t *testing.T) {
	for of := uint64(0); of <= 300; of++ {
		for _, n := range []int{0, 1, 439, 440, 441, 442, 493, 8192} {
			want := api.OK
			if of < 1 || of > ofMost || n > dataMost {
				want = api.ErrForm
			}
			f, e := frame.Read(plainBytes(5, 6, of, bytesOf(n)))
			if e != want || e != api.OK && !sameFrame(f, api.Frame{}) {
				t.Errorf("P6.1: Read of %d frames, %d bytes: %+v, error %d; want %d", of, n, f, e, want)
			}
		}
	}
}

func TestExample(t *testing.T) {
	record := bytesOf(441)
	l, e := frame.Cut(2, 7, record)
	if e != api.OK || len(l) != 2 {
		t.Fatalf("example 1: Cut: %d payloads, error %d", len(l), e)
	}
	if !bytes.Equal(l[0], append([]byte{2, 7, 2}, record[:440]...)) || !bytes.Equal(l[1], []byte{2, 7, 2, record[440]}) {
		t.Errorf("example 1: Cut: %x", l)
	}
	f, e := frame.Read(l[0])
	if e != api.OK {
		t.Fatalf("example 1: Read: error %d", e)
	}
	if b, e := frame.Join([]api.Frame{f}); e != api.ErrForm || len(b) != 0 {
		t.Errorf("example 1: Join of the first alone: %d bytes, error %d; want ErrForm", len(b), e)
	}
}

// holdCut holds Cut against the words' frames, one by one.
func holdCut(t *testing.T, age, first uint64, record []byte) {
	t.Helper()
	l, e := frame.Cut(age, first, record)
	want := plainFrames(age, first, record)
	if e != api.OK || len(l) != len(want) || len(l) != frame.Count(len(record)) {
		t.Fatalf("P6.2: Cut(%d, %d) of %d bytes: %d payloads, error %d; want %d", age, first, len(record), len(l), e, len(want))
	}
	for i, w := range want {
		if !bytes.Equal(l[i], plainBytes(w.Age, w.First, uint64(w.Of), w.Data)) {
			t.Fatalf("P6.2: Cut(%d, %d) of %d bytes: the payload %d is %x", age, first, len(record), i, l[i])
		}
		if len(l[i]) > 496 {
			t.Fatalf("P6.2: Cut(%d, %d) of %d bytes: the payload %d has no room in a sector: %d bytes", age, first, len(record), i, len(l[i]))
		}
	}
}

func TestCut(t *testing.T) {
	for n := range recordMost + 1 {
		holdCut(t, uint64(n), uint64(n)*uint64(n), bytesOf(n))
	}
	for _, age := range numerals() {
		for _, first := range numerals() {
			for _, n := range lengths() {
				holdCut(t, age, first, bytesOf(n))
			}
		}
	}
	holdCut(t, 1, 1, nil)
}

func TestCutRefused(t *testing.T) {
	for _, n := range []int{8193, 8194, 8360, 8361, 14080, 14081, 1 << 20} {
		if l, e := frame.Cut(1, 1, make([]byte, n)); e != api.ErrLarge || len(l) != 0 {
			t.Errorf("P6.2: Cut of %d bytes: %d payloads, error %d; want ErrLarge", n, len(l), e)
		}
	}
}
