package frame_test

import (
	"bytes"
	"math"
	"testing"

	"dunnage/api"
	"dunnage/frame"
)

// The chapter's numbers stand for themselves here: a turned constant is seen.
const (
	dataMost   = 440
	recordMost = 8192
	ofMost     = 32
)

// bytesOf are n bytes of which no two parts of a record are alike.
func bytesOf(n int) []byte {
	b := make([]byte, n)
	for i := range b {
		b[i] = byte(i*7 + i/dataMost*31 + i/256)
	}
	return b
}

// numerals are numbers at which their form as bytes turns.
func numerals() []uint64 {
	return []uint64{0, 1, 2, 7, 127, 128, 300, 16383, 16384, 1 << 32, 1<<63 - 1, 1 << 63, math.MaxUint64}
}

// lengths are those of records at which the number of frames, or the length of the last one, turns.
func lengths() []int {
	return []int{0, 1, 2, 439, 440, 441, 442, 879, 880, 881, 1319, 1320, 1321, 4400, 4401, 7919, 7920, 7921, 8191, 8192}
}

// number is v as bytes, by the words of chapter 1.
func number(v uint64) []byte {
	var b []byte
	for {
		low := byte(v % 128)
		v /= 128
		if v == 0 {
			return append(b, low)
		}
		b = append(b, low+128)
	}
}

// plainBytes is f as bytes by the chapter's words, whether it may be or not.
func plainBytes(age, first, of uint64, data []byte) []byte {
	b := number(age)
	b = append(b, number(first)...)
	b = append(b, number(of)...)
	return append(b, data...)
}

// plainFrames is the frames of a record by the chapter's words: taken byte by byte, a new frame wherever one is full.
func plainFrames(age, first uint64, record []byte) []api.Frame {
	parts := [][]byte{nil}
	for _, c := range record {
		if len(parts[len(parts)-1]) == dataMost {
			parts = append(parts, nil)
		}
		parts[len(parts)-1] = append(parts[len(parts)-1], c)
	}
	var l []api.Frame
	for _, p := range parts {
		l = append(l, api.Frame{Age: age, First: first, Of: len(parts), Data: p})
	}
	return l
}

// sameFrame is R9 of two frames.
func sameFrame(a, b api.Frame) bool {
	return a.Age == b.Age && a.First == b.First && a.Of == b.Of && bytes.Equal(a.Data, b.Data)
}

// plainJoin is P6.3's words at their plainest: all data together are the record, if that record, cut, is these frames.
func plainJoin(l []api.Frame) ([]byte, api.Errno) {
	var record []byte
	for _, f := range l {
		record = append(record, f.Data...)
	}
	if len(l) == 0 || len(record) > recordMost {
		return nil, api.ErrForm
	}
	want := plainFrames(l[0].Age, l[0].First, record)
	if len(want) != len(l) {
		return nil, api.ErrForm
	}
	for i := range l {
		if !sameFrame(l[i], want[i]) {
			return nil, api.ErrForm
		}
	}
	return record, api.OK
}

// holdJoin holds Join of l against the plain one.
func holdJoin(t *testing.T, what string, l []api.Frame) api.Errno {
	t.Helper()
	want, wantE := plainJoin(l)
	got, e := frame.Join(l)
	if e != wantE || !bytes.Equal(got, want) {
		t.Errorf("P6.3: Join of %s: %d bytes, error %d; want %d bytes, error %d", what, len(got), e, len(want), wantE)
	}
	return e
}
