package word_test

import (
	"bytes"
	"encoding/hex"
	"math"
	"testing"

	"dunnage/api"
	"dunnage/word"
)

const most64 = math.MaxUint64

func raw(t *testing.T, s string) []byte {
	t.Helper()
	b, err := hex.DecodeString(s)
	if err != nil {
		t.Fatal(err)
	}
	return b
}

// roomy is s as bytes, with room behind that is not theirs; the second result tells whether bytes and room are as they were.
func roomy(t *testing.T, s string) ([]byte, func() bool) {
	t.Helper()
	b := raw(t, s)
	all := append(append([]byte{}, b...), bytes.Repeat([]byte{0xa5}, 32)...)
	was := bytes.Clone(all)
	return all[:len(b)], func() bool { return bytes.Equal(all, was) }
}

func TestPut(t *testing.T) {
	rows := []struct {
		b    string
		v    uint64
		n    int
		want string
		e    api.Errno
	}{
		{"", 258, 2, "0201", api.OK},
		{"", 0, 1, "00", api.OK},
		{"", 0, 8, "0000000000000000", api.OK},
		{"", 255, 1, "ff", api.OK},
		{"", 256, 1, "", api.ErrOver},
		{"", 0x0102030405060708, 8, "0807060504030201", api.OK},
		{"", most64, 8, "ffffffffffffffff", api.OK},
		{"", most64, 7, "", api.ErrOver},
		{"0709", 1, 3, "0709010000", api.OK},
		{"0709", 256, 1, "", api.ErrOver},
		{"07", 0, 0, "", api.ErrArg},
		{"07", 0, 9, "", api.ErrArg},
		{"07", most64, 0, "", api.ErrArg},
		{"07", most64, 9, "", api.ErrArg},
		{"07", 1, -1, "", api.ErrArg},
		{"07", 1, math.MinInt, "", api.ErrArg},
		{"07", 1, math.MaxInt, "", api.ErrArg},
	}
	for _, r := range rows {
		b, same := roomy(t, r.b)
		got, e := word.Put(b, r.v, r.n)
		if e != r.e || hex.EncodeToString(got) != r.want {
			t.Errorf("P1.1: Put(%s, %d, %d): %x, error %d; want %s, error %d", r.b, r.v, r.n, got, e, r.want, r.e)
		}
		if !same() {
			t.Errorf("R3: Put(%s, %d, %d) wrote into what it was given", r.b, r.v, r.n)
		}
	}
}

func TestPutRoomOfEachCount(t *testing.T) {
	for n := 1; n <= 8; n++ {
		top := uint64(most64) >> (64 - 8*n)
		b, e := word.Put(nil, top, n)
		if e != api.OK || !bytes.Equal(b, bytes.Repeat([]byte{0xff}, n)) {
			t.Errorf("P1.1: Put(none, %d, %d): %x, error %d", top, n, b, e)
		}
		if n == 8 {
			continue
		}
		if b, e := word.Put(nil, top+1, n); e != api.ErrOver || len(b) != 0 {
			t.Errorf("P1.1: Put(none, %d, %d): %x, error %d; want ErrOver", top+1, n, b, e)
		}
	}
}

func TestGet(t *testing.T) {
	rows := []struct {
		b     string
		at, n int
		want  uint64
		e     api.Errno
	}{
		{"0201", 0, 2, 258, api.OK},
		{"0201", 0, 1, 2, api.OK},
		{"0201", 1, 1, 1, api.OK},
		{"0201", 1, 2, 0, api.ErrShort},
		{"0201", 2, 1, 0, api.ErrShort},
		{"0201", 3, 1, 0, api.ErrShort},
		{"0201", 0, 3, 0, api.ErrShort},
		{"0201", math.MaxInt, 1, 0, api.ErrShort},
		{"0201", math.MaxInt, 8, 0, api.ErrShort},
		{"0201", math.MaxInt - 7, 8, 0, api.ErrShort},
		{"", 0, 1, 0, api.ErrShort},
		{"", 0, 8, 0, api.ErrShort},
		{"ffffffffffffffff", 0, 8, most64, api.OK},
		{"990807060504030201", 1, 8, 0x0102030405060708, api.OK},
		{"990807060504030201", 2, 8, 0, api.ErrShort},
		{"0201", -1, 1, 0, api.ErrArg},
		{"0201", math.MinInt, 1, 0, api.ErrArg},
		{"0201", 0, 0, 0, api.ErrArg},
		{"0201", 0, 9, 0, api.ErrArg},
		{"0201", 0, -1, 0, api.ErrArg},
		{"0201", 0, math.MinInt, 0, api.ErrArg},
		{"0201", 0, math.MaxInt, 0, api.ErrArg},
		{"000102030405060708", 0, 9, 0, api.ErrArg},
		{"", 5, 0, 0, api.ErrArg},
		{"", 5, 9, 0, api.ErrArg},
		{"", -1, 8, 0, api.ErrArg},
	}
	for _, r := range rows {
		b, same := roomy(t, r.b)
		got, e := word.Get(b, r.at, r.n)
		if e != r.e || got != r.want {
			t.Errorf("P1.1: Get(%s, %d, %d): %d, error %d; want %d, error %d", r.b, r.at, r.n, got, e, r.want, r.e)
		}
		if !same() {
			t.Errorf("R3: Get(%s, %d, %d) wrote into what it was given", r.b, r.at, r.n)
		}
	}
}

func TestVar(t *testing.T) {
	rows := []struct {
		v    uint64
		want string
	}{
		{0, "00"},
		{1, "01"},
		{127, "7f"},
		{128, "8001"},
		{300, "ac02"},
		{16383, "ff7f"},
		{16384, "808001"},
		{1<<63 - 1, "ffffffffffffffff7f"},
		{1 << 63, "80808080808080808001"},
		{most64, "ffffffffffffffffff01"},
	}
	for _, r := range rows {
		if b := word.Var(r.v); hex.EncodeToString(b) != r.want {
			t.Errorf("P1.2: Var(%d): %x; want %s", r.v, b, r.want)
		}
	}
}

func TestReadVar(t *testing.T) {
	rows := []struct {
		b   string
		at  int
		v   uint64
		end int
		e   api.Errno
	}{
		{"00", 0, 0, 1, api.OK},
		{"7f", 0, 127, 1, api.OK},
		{"ac02", 0, 300, 2, api.OK},
		{"ac02ff", 0, 300, 2, api.OK},
		{"ffffac02", 2, 300, 4, api.OK},
		{"ac0200", 2, 0, 3, api.OK},
		{"ac02", 1, 2, 2, api.OK},
		{"80808080808080808001", 0, 1 << 63, 10, api.OK},
		{"ffffffffffffffffff01", 0, most64, 10, api.OK},
		{"00ffffffffffffffffff01ff", 1, most64, 11, api.OK},
	}
	for _, r := range rows {
		b, same := roomy(t, r.b)
		v, end, e := word.ReadVar(b, r.at)
		if v != r.v || end != r.end || e != r.e {
			t.Errorf("P1.2: ReadVar(%s, %d): %d, %d, error %d; want %d, %d", r.b, r.at, v, end, e, r.v, r.end)
		}
		if !same() {
			t.Errorf("R3: ReadVar(%s, %d) wrote into what it was given", r.b, r.at)
		}
	}
}

func TestReadVarRefused(t *testing.T) {
	rows := []struct {
		b  string
		at int
		e  api.Errno
	}{
		{"00", -1, api.ErrArg},
		{"00", math.MinInt, api.ErrArg},
		{"", -1, api.ErrArg},
		{"8000", -1, api.ErrArg},
		{"", 0, api.ErrShort},
		{"", 1, api.ErrShort},
		{"80", 0, api.ErrShort},
		{"00", 1, api.ErrShort},
		{"00", 5, api.ErrShort},
		{"00", math.MaxInt, api.ErrShort},
		{"808080808080808080", 0, api.ErrShort},
		{"ffffffffffffffffff", 0, api.ErrShort},
		{"8000", 0, api.ErrForm},
		{"800001", 0, api.ErrForm},
		{"ffff00", 0, api.ErrForm},
		{"00018000", 2, api.ErrForm},
		{"80808080808080808000", 0, api.ErrForm},
		{"ffffffffffffffffff00", 0, api.ErrForm},
		{"ffffffffffffffffff02", 0, api.ErrForm},
		{"ffffffffffffffffff7f", 0, api.ErrForm},
		{"80808080808080808080", 0, api.ErrForm},
		{"80808080808080808081", 0, api.ErrForm},
		{"ffffffffffffffffffff", 0, api.ErrForm},
		{"8080808080808080808001", 0, api.ErrForm},
		{"8180808080808080808100", 0, api.ErrForm},
	}
	for _, r := range rows {
		if v, end, e := word.ReadVar(raw(t, r.b), r.at); v != 0 || end != 0 || e != r.e {
			t.Errorf("P1.2: ReadVar(%s, %d): %d, %d, error %d; want error %d", r.b, r.at, v, end, e, r.e)
		}
	}
}

func TestText(t *testing.T) {
	long := bytes.Repeat([]byte{'x'}, 300)
	rows := []struct {
		text []byte
		want string
	}{
		{nil, "00"},
		{[]byte{}, "00"},
		{[]byte("ab"), "026162"},
		{[]byte{0}, "0100"},
		{long[:127], "7f" + hex.EncodeToString(long[:127])},
		{long[:128], "8001" + hex.EncodeToString(long[:128])},
		{long, "ac02" + hex.EncodeToString(long)},
	}
	for _, r := range rows {
		text, same := roomy(t, hex.EncodeToString(r.text))
		if b := word.Text(text); hex.EncodeToString(b) != r.want {
			t.Errorf("P1.3: Text(%x): %x; want %s", r.text, b, r.want)
		}
		if !same() {
			t.Errorf("R3: Text(%x) wrote into what it was given", r.text)
		}
	}
}

func TestReadText(t *testing.T) {
	rows := []struct {
		b        string
		at, most int
		text     string
		end      int
	}{
		{"02616263", 0, 9, "ab", 3},
		{"02616263", 0, 2, "ab", 3},
		{"026162", 0, 2, "ab", 3},
		{"026162", 0, math.MaxInt, "ab", 3},
		{"ffff0161", 2, 1, "a", 4},
		{"00", 0, 0, "", 1},
		{"00", 0, -3, "", 1},
		{"00", 0, math.MinInt, "", 1},
		{"0161" + "00", 2, 5, "", 3},
	}
	for _, r := range rows {
		b, same := roomy(t, r.b)
		text, end, e := word.ReadText(b, r.at, r.most)
		if string(text) != r.text || end != r.end || e != api.OK {
			t.Errorf("P1.3: ReadText(%s, %d, %d): %q, %d, error %d; want %q, %d", r.b, r.at, r.most, text, end, e, r.text, r.end)
		}
		if !same() {
			t.Errorf("R3: ReadText(%s, %d, %d) wrote into what it was given", r.b, r.at, r.most)
		}
	}
}

func TestReadTextRefused(t *testing.T) {
	rows := []struct {
		b        string
		at, most int
		e        api.Errno
	}{
		{"026162", -1, 9, api.ErrArg},
		{"026162", math.MinInt, 9, api.ErrArg},
		{"", 0, 9, api.ErrShort},
		{"026162", 3, 9, api.ErrShort},
		{"026162", math.MaxInt, 9, api.ErrShort},
		{"80", 0, 0, api.ErrShort},
		{"8000", 0, 0, api.ErrForm},
		{"ffffffffffffffffff02", 0, 0, api.ErrForm},
		{"02616263", 0, 1, api.ErrLarge},
		{"0161", 0, 0, api.ErrLarge},
		{"0161", 0, -1, api.ErrLarge},
		{"0161", 0, math.MinInt, api.ErrLarge},
		{"0261", 0, 1, api.ErrLarge},
		{"ffffffffffffffffff01", 0, math.MaxInt, api.ErrLarge},
		{"80808080808080808001", 0, math.MaxInt, api.ErrLarge},
		{"ffffffffffffffffff01", 0, -1, api.ErrLarge},
		{"ffffffffffffffff7f61", 0, math.MaxInt, api.ErrShort},
		{"0261", 0, 2, api.ErrShort},
		{"01", 0, 9, api.ErrShort},
	}
	for _, r := range rows {
		b, _ := roomy(t, r.b)
		if text, end, e := word.ReadText(b, r.at, r.most); len(text) != 0 || end != 0 || e != r.e {
			t.Errorf("P1.3: ReadText(%s, %d, %d): %q, %d, error %d; want error %d", r.b, r.at, r.most, text, end, e, r.e)
		}
	}
}

func TestZero(t *testing.T) {
	if !word.Zero(nil) || !word.Zero([]byte{}) || !word.Zero(make([]byte, 512)) {
		t.Error("P1.3: Zero of no bytes, or of bytes of 0: no")
	}
	for at := range 17 {
		for bit := range 8 {
			b, same := roomy(t, "0000000000000000000000000000000000")
			if !word.Zero(b) || !same() {
				t.Fatal("P1.3: Zero of bytes of 0, with others behind: no")
			}
			b[at] = 1 << bit
			if word.Zero(b) {
				t.Errorf("P1.3: Zero, with bit %d of byte %d set: yes", bit, at)
			}
		}
	}
}

func TestAnswersAreNewMemory(t *testing.T) {
	room := make([]byte, 8)
	copy(room, "abc")
	put, _ := word.Put(room[:3], 1, 1)
	text := word.Text(room[:3])
	room[0] = 'z'
	if string(put) != "abc\x01" || string(text) != "\x03abc" {
		t.Errorf("R3: Put or Text keep what they were given: %q, %q", put, text)
	}
	put[1], text[2] = 'y', 'y'
	if string(room) != "zbc\x00\x00\x00\x00\x00" {
		t.Errorf("R3: who writes into what Put or Text answered changes what was given: %q", room)
	}
	b := []byte("\x02abc")
	got, _, _ := word.ReadText(b, 0, 9)
	got = append(got, 'x')
	got[0] = 'y'
	if string(b) != "\x02abc" {
		t.Errorf("R3: who writes into what ReadText answered changes what was given: %q", b)
	}
	first := word.Var(300)
	first[0] = 0
	if second := word.Var(300); !bytes.Equal(second, []byte{0xac, 2}) {
		t.Errorf("R3: who writes into what Var answered changes a later one: %x", second)
	}
}
