package frame_test

import (
	"bytes"
	"slices"
	"testing"

	"dunnage/api"
	"dunnage/frame"
)

// mustCut is the frames that Cut makes, read.
func mustCut(t *testing.T, age, first uint64, record []byte) []api.Frame {
	t.Helper()
	l, e := frame.Cut(age, first, record)
	if e != api.OK {
		t.Fatalf("P6.2: Cut of %d bytes: error %d", len(record), e)
	}
	var out []api.Frame
	for i, b := range l {
		f, e := frame.Read(b)
		if e != api.OK || f.Age != age || f.First != first || f.Of != len(l) {
			t.Fatalf("P6.1: Read of frame %d of %d bytes: %+v, error %d", i, len(record), f, e)
		}
		out = append(out, f)
	}
	return out
}

// 'What follows': what is cut is joined again.
func TestWhatIsCutIsJoined(t *testing.T) {
	for n := range recordMost + 1 {
		record := bytesOf(n)
		if b, e := frame.Join(mustCut(t, uint64(n), 1<<40, record)); e != api.OK || !bytes.Equal(b, record) {
			t.Fatalf("what follows: %d bytes, cut and joined: %d bytes, error %d", n, len(b), e)
		}
	}
}

// 'What follows': frames of unlike ages, or of two records, are no record.
func TestUnlikeFramesAreNoRecord(t *testing.T) {
	record := bytesOf(1000)
	here := mustCut(t, 3, 4, record)
	for _, there := range [][]api.Frame{mustCut(t, 5, 4, record), mustCut(t, 3, 7, record), mustCut(t, 3, 4, bytesOf(1400))} {
		for i := range here {
			mixed := slices.Clone(here)
			mixed[i] = there[i]
			if b, e := frame.Join(mixed); e != api.ErrForm || len(b) != 0 {
				t.Errorf("what follows: Join, frame %d of another record: %d bytes, error %d; want ErrForm", i, len(b), e)
			}
		}
	}
}

// eachBytes tells all strings of up to size bytes, made of those at which a number's form, or what Of may be, turns.
func eachBytes(size int, tell func(b []byte)) {
	edges := []byte{0x00, 0x01, 0x20, 0x21, 0x7f, 0x80, 0xa0, 0xff}
	var grow func(b []byte)
	grow = func(b []byte) {
		tell(b)
		if len(b) == size {
			return
		}
		for _, c := range edges {
			grow(append(bytes.Clone(b), c))
		}
	}
	grow(nil)
}

// 'What follows': what is read, written again, is the same bytes.
func TestWhatIsReadWrittenAgain(t *testing.T) {
	read, refused := 0, 0
	eachBytes(6, func(b []byte) {
		f, e := frame.Read(b)
		if e != api.OK {
			refused++
			if e != api.ErrShort && e != api.ErrForm || !sameFrame(f, api.Frame{}) {
				t.Fatalf("P6.1: Read(%x): %+v, error %d", b, f, e)
			}
			return
		}
		read++
		if again, e := frame.Write(f); e != api.OK || !bytes.Equal(again, b) {
			t.Fatalf("what follows: %x, read and written: %x, error %d", b, again, e)
		}
	})
	if read < 1000 || refused < 1000 {
		t.Errorf("%d strings were read, %d refused: too few of one to tell", read, refused)
	}
}

// room is b with bytes behind its end; the second result tells whether all of it is as it was.
func room(b []byte) ([]byte, func() bool) {
	all := append(bytes.Clone(b), bytes.Repeat([]byte{0xa5}, 1000)...)
	was := bytes.Clone(all)
	return all[:len(b)], func() bool { return bytes.Equal(all, was) }
}

func TestWhatIsHandedInStands(t *testing.T) {
	for _, n := range lengths() {
		record, same := room(bytesOf(n))
		l, _ := frame.Cut(1, 2, record)
		if !same() {
			t.Errorf("R3: Cut of %d bytes wrote into what it was given", n)
		}
		var frames []api.Frame
		for _, b := range l {
			payload, same := room(b)
			f, _ := frame.Read(payload)
			if !same() {
				t.Errorf("R3: Read of %d bytes wrote into what it was given", len(b))
			}
			frames = append(frames, f)
		}
		holdFramesStand(t, frames)
	}
}

// holdFramesStand holds that Join and Write leave frames, with the room behind their data and behind their list, as they were.
func holdFramesStand(t *testing.T, frames []api.Frame) {
	t.Helper()
	all := append(slices.Clone(frames), api.Frame{Age: 77, Of: 1})
	var sames []func() bool
	for i := range frames {
		data, same := room(frames[i].Data)
		all[i].Data = data
		sames = append(sames, same)
	}
	frame.Join(all[:len(frames)])
	for i := range frames {
		frame.Write(all[i])
		if !sames[i]() || !sameFrame(all[i], frames[i]) {
			t.Errorf("R3: Join or Write changed frame %d of %d", i, len(frames))
		}
	}
	if !sameFrame(all[len(frames)], api.Frame{Age: 77, Of: 1}) {
		t.Errorf("R3: Join of %d frames wrote behind its list", len(frames))
	}
}

// scribble writes over b, and over the room behind its end.
func scribble(b []byte) {
	all := b[:cap(b)]
	for i := range all {
		all[i] = 0xee
	}
}

func TestAnswersAreNewMemory(t *testing.T) {
	for _, n := range lengths() {
		record, same := room(bytesOf(n))
		l, _ := frame.Cut(1, 2, record)
		want := plainFrames(1, 2, bytesOf(n))
		for i := range l {
			f, _ := frame.Read(l[i])
			scribble(l[i])
			if !sameFrame(f, want[i]) {
				t.Errorf("R3: the frame %d of %d bytes that was read is kept in the payload", i, n)
			}
			b, _ := frame.Write(f)
			scribble(b)
			if !sameFrame(f, want[i]) {
				t.Errorf("R3: what Write answered of frame %d of %d bytes is the frame's data", i, n)
			}
			if i+1 < len(l) && !bytes.Equal(l[i+1], plainBytes(1, 2, uint64(len(l)), want[i+1].Data)) {
				t.Errorf("R3: two payloads of %d bytes share memory", n)
			}
		}
		if !same() {
			t.Errorf("R3: the payloads of %d bytes are the record's memory", n)
		}
	}
}

func TestJoinedIsNewMemory(t *testing.T) {
	for _, n := range lengths() {
		l := plainFrames(1, 2, bytesOf(n))
		b, _ := frame.Join(l)
		scribble(b)
		for i, want := range plainFrames(1, 2, bytesOf(n)) {
			if !sameFrame(l[i], want) {
				t.Errorf("R3: what Join answered of %d bytes is the memory of frame %d", n, i)
			}
		}
		b, _ = frame.Join(l)
		for i := range l {
			scribble(l[i].Data)
		}
		if !bytes.Equal(b, bytesOf(n)) {
			t.Errorf("R3: Join of %d bytes keeps what it was given", n)
		}
	}
}
