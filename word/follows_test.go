package word_test

import (
	"bytes"
	"testing"

	"dunnage/api"
	"dunnage/word"
)

// numbers are those about each place where the form of a number turns.
func numbers() []uint64 {
	l := []uint64{0, 300, 0x0123456789abcdef, most64}
	for bit := range 64 {
		v := uint64(1) << bit
		l = append(l, v-1, v, v+1)
	}
	return l
}

func TestWhatIsPutIsGot(t *testing.T) {
	for _, v := range numbers() {
		for n := 1; n <= 8; n++ {
			for _, ahead := range [][]byte{nil, {9}, []byte("ahead of it")} {
				b, e := word.Put(ahead, v, n)
				if e == api.ErrOver && n < 8 && v>>(8*n) != 0 {
					continue
				}
				if e != api.OK || len(b) != len(ahead)+n || !bytes.HasPrefix(b, ahead) {
					t.Fatalf("P1.1: Put(%x, %d, %d): %x, error %d", ahead, v, n, b, e)
				}
				if got, e := word.Get(b, len(ahead), n); got != v || e != api.OK {
					t.Fatalf("what is put is got: %d in %d bytes: %d, error %d", v, n, got, e)
				}
			}
		}
	}
}

func TestWhatIsWrittenIsRead(t *testing.T) {
	for _, v := range numbers() {
		b := word.Var(v)
		if len(b) < 1 || len(b) > 10 {
			t.Fatalf("P1.2: Var(%d): %x", v, b)
		}
		for _, ahead := range [][]byte{nil, {0x80}, []byte("ahead of it")} {
			all := append(append(bytes.Clone(ahead), b...), 0xff)
			got, end, e := word.ReadVar(all, len(ahead))
			if got != v || end != len(ahead)+len(b) || e != api.OK {
				t.Fatalf("what is written is read: %d: %d, %d, error %d", v, got, end, e)
			}
		}
		for cut := range len(b) {
			if _, _, e := word.ReadVar(b[:cut], 0); e != api.ErrShort {
				t.Fatalf("P1.2: ReadVar of %d bytes of %x: error %d; want ErrShort", cut, b, e)
			}
		}
	}
}

func TestWrittenTextsAreRead(t *testing.T) {
	long := bytes.Repeat([]byte("dunnage"), 60)
	for size := range len(long) + 1 {
		text := long[:size]
		all := append([]byte{0xff}, word.Text(text)...)
		got, end, e := word.ReadText(all, 1, size)
		if !bytes.Equal(got, text) || end != len(all) || e != api.OK {
			t.Fatalf("what is written is read: a text of %d bytes: %d, %d, error %d", size, len(got), end, e)
		}
		if !bytes.Equal(word.Text(got), all[1:end]) {
			t.Fatalf("what is read, written again: a text of %d bytes: other bytes", size)
		}
		if _, _, e := word.ReadText(all, 1, size-1); size > 0 && e != api.ErrLarge {
			t.Fatalf("P1.3: a text of %d bytes, one less at most: error %d", size, e)
		}
		if _, _, e := word.ReadText(all[:end-1], 1, size); e != api.ErrShort {
			t.Fatalf("P1.3: a text of %d bytes, one missing: error %d", size, e)
		}
	}
}

// eachBytes tells all strings of up to size bytes, made of those at which a number's form turns.
func eachBytes(size int, tell func(b []byte)) {
	edges := []byte{0x00, 0x01, 0x02, 0x7f, 0x80, 0x81, 0xff}
	var grow func(b []byte)
	grow = func(b []byte) {
		tell(bytes.Clone(b))
		if len(b) == size {
			return
		}
		for _, c := range edges {
			grow(append(bytes.Clone(b), c))
		}
	}
	grow(nil)
}

// wantOf is how the chapter's words judge bytes as a number, byte by byte.
func wantOf(b []byte) api.Errno {
	for i, c := range b {
		switch {
		case i == 9 && c > 1:
			return api.ErrForm
		case c == 0 && i > 0:
			return api.ErrForm
		case c < 0x80:
			return api.OK
		}
	}
	return api.ErrShort
}

func TestWhatIsReadWrittenAgain(t *testing.T) {
	for _, ahead := range []string{"", "\x80", "\x80\x80\x80\x80\x80\x80\x80\x80", "\xff\xff\xff\xff\xff\xff\xff\xff\xff", "\x81\x80\xff\x80\x80\x80\x80\x80\x80"} {
		eachBytes(4, func(rest []byte) {
			b := append([]byte(ahead), rest...)
			v, end, e := word.ReadVar(b, 0)
			if e != wantOf(b) {
				t.Fatalf("P1.2: ReadVar(%x, 0): error %d; want %d", b, e, wantOf(b))
			}
			if e == api.OK && !bytes.Equal(word.Var(v), b[:end]) {
				t.Fatalf("what is read, written again: %x: %d, %d", b, v, end)
			}
		})
	}
}
