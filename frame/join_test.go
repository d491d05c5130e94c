package frame_test

import (
	"bytes"
	"math"
	"slices"
	"strconv"
	"testing"

	"dunnage/api"
	"dunnage/frame"
)

// refusedJoin holds that Join refuses l, and that the plain one does too.
func refusedJoin(t *testing.T, what string, l []api.Frame) {
	t.Helper()
	if e := holdJoin(t, what, l); e != api.ErrForm {
		t.Errorf("P6.3: Join of %s: error %d; want ErrForm", what, e)
	}
}

func TestJoin(t *testing.T) {
	for _, n := range lengths() {
		record := bytesOf(n)
		b, e := frame.Join(plainFrames(math.MaxUint64, 1<<63, record))
		if e != api.OK || !bytes.Equal(b, record) {
			t.Errorf("P6.3: Join of a record of %d bytes: %d bytes, error %d", n, len(b), e)
		}
	}
}

func TestJoinOfNone(t *testing.T) {
	refusedJoin(t, "nothing", nil)
	refusedJoin(t, "no frames", []api.Frame{})
	refusedJoin(t, "a frame that is zero", make([]api.Frame, 1))
}

// Each list that differs from a record's frames by one frame less, one more, or two in each other's place is none.
func TestJoinOfOtherFrames(t *testing.T) {
	for _, n := range lengths() {
		l := plainFrames(3, 4, bytesOf(n))
		name := "a record of " + strconv.Itoa(n) + " bytes, "
		for i := range l {
			at := strconv.Itoa(i)
			refusedJoin(t, name+"without frame "+at, slices.Delete(slices.Clone(l), i, i+1))
			refusedJoin(t, name+"twice with frame "+at, slices.Insert(slices.Clone(l), i, l[i]))
			refusedJoin(t, name+"with frame "+at+" behind", append(slices.Clone(l), l[i]))
		}
		for i := range len(l) - 1 {
			swapped := slices.Clone(l)
			swapped[i], swapped[len(l)-1] = swapped[len(l)-1], swapped[i]
			holdJoin(t, name+"with a frame in the last one's place", swapped)
		}
	}
	l := plainFrames(3, 4, bytesOf(1000))
	refusedJoin(t, "a record with its last frame ahead", []api.Frame{l[2], l[0], l[1]})
}

// Each frame in its turn is made unlike the others.
func TestJoinOfUnlikeFrames(t *testing.T) {
	turns := map[string]func(f *api.Frame){
		"age, one more":      func(f *api.Frame) { f.Age++ },
		"age, its top bit":   func(f *api.Frame) { f.Age ^= 1 << 63 },
		"first, one less":    func(f *api.Frame) { f.First-- },
		"first, its top bit": func(f *api.Frame) { f.First ^= 1 << 63 },
		"age for first":      func(f *api.Frame) { f.Age, f.First = f.First, f.Age },
		"of, one less":       func(f *api.Frame) { f.Of-- },
		"of, one more":       func(f *api.Frame) { f.Of++ },
		"of, none":           func(f *api.Frame) { f.Of = 0 },
		"of, below 0":        func(f *api.Frame) { f.Of = -f.Of },
		"of, least":          func(f *api.Frame) { f.Of = math.MinInt },
		"of, greatest":       func(f *api.Frame) { f.Of = math.MaxInt },
	}
	for _, n := range []int{441, 880, 881, 1320, 8192} {
		for i := range plainFrames(3, 4, bytesOf(n)) {
			for what, turn := range turns {
				l := plainFrames(3, 4, bytesOf(n))
				turn(&l[i])
				refusedJoin(t, strconv.Itoa(n)+" bytes, frame "+strconv.Itoa(i)+" with another "+what, l)
			}
		}
	}
	for _, of := range []int{math.MinInt, -1, 0, 2, 19, 32, 33, math.MaxInt} {
		refusedJoin(t, "one frame of "+strconv.Itoa(of), []api.Frame{{Of: of, Data: bytesOf(9)}})
	}
}

// Each frame in its turn has each length up to two more than it may have.
func TestJoinOfEachPart(t *testing.T) {
	for _, of := range []int{1, 2, 3, 19} {
		for i := range of {
			for n := range dataMost + 3 {
				l := plainFrames(3, 4, bytesOf(min(of*dataMost, recordMost)))
				l[i].Data = bytesOf(n)
				e := holdJoin(t, "frame "+strconv.Itoa(i)+" of "+strconv.Itoa(of)+" with "+strconv.Itoa(n)+" bytes", l)
				if want := wantOfPart(i, of, n); e != want {
					t.Errorf("P6.3: Join, frame %d of %d with %d bytes: error %d; want %d", i, of, n, e, want)
				}
			}
		}
	}
}

// wantOfPart is P6.3's words for frame i of so many, if it has n bytes, and the others are as long as they must be.
func wantOfPart(i, of, n int) api.Errno {
	switch {
	case i < of-1 && n != 440:
		return api.ErrForm
	case i == of-1 && n > 440:
		return api.ErrForm
	case of > 1 && n == 0:
		return api.ErrForm
	case of == 19 && i == 18 && n > 272:
		return api.ErrForm
	}
	return api.OK
}

// Frames that are alike and full, but of more bytes together than a record may have.
func TestJoinOfTooMuch(t *testing.T) {
	for _, n := range []int{8193, 8194, 8360, 8361, 8800, 8801, 14079, 14080, 14081, 44000} {
		refusedJoin(t, strconv.Itoa(n)+" bytes", plainFrames(1, 1, bytesOf(n)))
	}
	shared := bytesOf(dataMost)
	many := make([]api.Frame, 1<<16)
	for i := range many {
		many[i] = api.Frame{Of: len(many), Data: shared}
	}
	refusedJoin(t, "65536 full frames", many)
}

// Frames of two records of one length are none, whichever of them each is of.
func TestJoinOfTwoRecords(t *testing.T) {
	for _, n := range []int{441, 1000, 2000} {
		a, b := plainFrames(3, 4, bytesOf(n)), plainFrames(3, 9, bytesOf(n))
		c := plainFrames(5, 4, bytesOf(n))
		for choice := range 1 << len(a) {
			for _, other := range [][]api.Frame{b, c} {
				mixed := slices.Clone(a)
				for i := range mixed {
					if choice>>i&1 != 0 {
						mixed[i] = other[i]
					}
				}
				e := holdJoin(t, "frames of two records", mixed)
				if one := choice == 0 || choice == 1<<len(a)-1; one != (e == api.OK) {
					t.Errorf("what follows: Join of frames of two records, choice %b of %d: error %d", choice, n, e)
				}
			}
		}
	}
}
