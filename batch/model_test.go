package batch_test

import (
	"bytes"
	"encoding/hex"
	"math"
	"slices"
	"strings"
	"testing"

	"dunnage/api"
)

// The document's numbers stand for themselves here: a turned constant is seen.
const (
	opsMost   = 32
	keyMost   = 64
	valueMost = 4096
	batchMost = 32768
	placeMost = 65536
	partsMost = 9
	sizeMost  = 2147483647
	intMost   = 4611686018427387904
)

// chance is a row of numbers that looks like none, and is the same in each run.
type chance uint64

func (c *chance) next(n int) int {
	*c ^= *c << 13
	*c ^= *c >> 7
	*c ^= *c << 17
	return int(uint64(*c) >> 11 % uint64(n))
}

func put(key, value string) api.Op { return api.Op{Key: key, Value: []byte(value)} }

func del(key string) api.Op { return api.Op{Key: key, Delete: true} }

// sized is a put of so many bytes of key and value.
func sized(key, value int) api.Op {
	return api.Op{Key: strings.Repeat("k", key), Value: make([]byte, value)}
}

// many is n operations that are alike.
func many(n int, op api.Op) []api.Op { return slices.Repeat([]api.Op{op}, n) }

// sameOps is R9 of two lists of operations.
func sameOps(a, b []api.Op) bool {
	return slices.EqualFunc(a, b, func(x, y api.Op) bool {
		return x.Key == y.Key && bytes.Equal(x.Value, y.Value) && x.Delete == y.Delete
	})
}

// stands is the order of keys, byte by byte: below 0, if a stands below b, 0, if they are the same text.
func stands(a, b string) int {
	for i := 0; i < len(a) && i < len(b); i++ {
		if a[i] != b[i] {
			return int(a[i]) - int(b[i])
		}
	}
	return len(a) - len(b)
}

// plainLast is Last's words: each operation that has none of its key behind it, laid in its place among those that were found.
func plainLast(ops []api.Op) []api.Op {
	var l []api.Op
	for i, op := range ops {
		if slices.ContainsFunc(ops[i+1:], func(o api.Op) bool { return o.Key == op.Key }) {
			continue
		}
		at := 0
		for at < len(l) && stands(l[at].Key, op.Key) < 0 {
			at++
		}
		l = slices.Insert(l, at, op)
	}
	return l
}

// sameRecord is R9 of two records.
func sameRecord(a, b api.Record) bool {
	return a.Kind == b.Kind && a.Seq == b.Seq && slices.Equal(a.Changes, b.Changes) && a.Move == b.Move
}

func ref(key string, serial uint64, at, size int) api.Change {
	return api.Change{Key: key, Ref: api.Ref{Serial: serial, At: at, Len: size}}
}

func gone(key string) api.Change { return api.Change{Key: key, Delete: true} }

func batchOf(seq uint64, l ...api.Change) api.Record {
	return api.Record{Kind: api.RecBatch, Seq: seq, Changes: l}
}

func moveOf(serial uint64, from, to, n int) api.Record {
	return api.Record{Kind: api.RecMove, Move: api.Move{Serial: serial, From: from, To: to, N: n}}
}

// full is the longest record that may be: MaxOps changes, with the longest keys and the greatest numbers.
func full() api.Record {
	r := batchOf(math.MaxUint64)
	for i := range opsMost {
		r.Changes = append(r.Changes, ref(strings.Repeat("k", keyMost-1)+string(rune('0'+i)), math.MaxUint64, placeMost, valueMost))
	}
	return r
}

// deletes is a batch of n changes, all of them deletes.
func deletes(n int) api.Record {
	r := batchOf(1)
	for i := range n {
		r.Changes = append(r.Changes, gone(string(rune('0'+i))))
	}
	return r
}

// records are some that may be: of both kinds, and at the bounds of each field.
func records() []api.Record {
	long := strings.Repeat("k", keyMost)
	return []api.Record{
		batchOf(7, ref("a", 300, 4, 9), gone("b")),
		batchOf(1, gone("a")),
		batchOf(1, ref("a", 1, 0, 0)),
		batchOf(math.MaxUint64, ref("a", math.MaxUint64, placeMost, valueMost)),
		batchOf(1<<63, ref("\x00", 1<<63, 127, 128), ref("\x00\x00", 128, 128, 127), gone("\xff")),
		batchOf(127, gone("a"), gone("a\x00"), ref("a\x00\x00", 127, 16383, 300), gone("aa"), gone("b")),
		batchOf(128, gone(long[1:]), ref(long, 2, 16384, 1), gone(long[1:]+"l")),
		batchOf(300, ref("\x7f", 2, 3, 4), ref("\x80", 5, 6, 7), gone("\xc3\xa9")),
		deletes(1), deletes(31), deletes(opsMost), full(),
		moveOf(5, 9, 2, 3), moveOf(1, 0, 1, 1), moveOf(1, 1, 0, 9), moveOf(300, placeMost, 0, 5), moveOf(127, 0, placeMost, 1),
		moveOf(math.MaxUint64, 65535, placeMost, partsMost), moveOf(1<<63, placeMost, 65535, 2), moveOf(128, 127, 128, 8),
	}
}

// number is v as bytes, by the words of chapter 1.
func number(v uint64) []byte {
	var b []byte
	for {
		low := byte(v % 128)
		v /= 128
		if v == 0 {
			return append(b, low)
		}
		b = append(b, low+128)
	}
}

// longer is v as bytes, but not in its one form: a byte of 0 behind the last one.
func longer(v uint64) []byte {
	b := number(v)
	b[len(b)-1] += 128
	return append(b, 0)
}

// parts is r as bytes by the chapter's words, whether it may be or not, part by part; of each part whether it is a number (of a text its length).
func parts(r api.Record) ([][]byte, []bool) {
	l, is := [][]byte{{byte(r.Kind)}}, []bool{false}
	numeral := func(v uint64) { l, is = append(l, number(v)), append(is, true) }
	plain := func(b ...byte) { l, is = append(l, b), append(is, false) }
	if r.Kind == api.RecMove {
		numeral(r.Move.Serial)
		numeral(uint64(r.Move.From))
		numeral(uint64(r.Move.To))
		numeral(uint64(r.Move.N))
		return l, is
	}
	numeral(r.Seq)
	numeral(uint64(len(r.Changes)))
	for _, c := range r.Changes {
		numeral(uint64(len(c.Key)))
		plain([]byte(c.Key)...)
		if c.Delete {
			plain(1)
			continue
		}
		plain(0)
		numeral(c.Ref.Serial)
		numeral(uint64(c.Ref.At))
		numeral(uint64(c.Ref.Len))
	}
	return l, is
}

// plainBytes is r as bytes by the chapter's words, whether it may be or not.
func plainBytes(r api.Record) []byte {
	l, _ := parts(r)
	return slices.Concat(l...)
}

// plainMay is the chapter's words on which records may be.
func plainMay(r api.Record) bool {
	faults := 0
	fault := func(is bool) {
		if is {
			faults++
		}
	}
	switch r.Kind {
	case 1:
		fault(r.Seq == 0)
		fault(len(r.Changes) == 0)
		fault(len(r.Changes) > opsMost)
		fault(r.Move != api.Move{})
		for i, c := range r.Changes {
			fault(c.Key == "")
			fault(len(c.Key) > keyMost)
			fault(i > 0 && stands(r.Changes[i-1].Key, c.Key) >= 0)
			fault(c.Delete && c.Ref != api.Ref{})
			fault(!c.Delete && (c.Ref.Serial == 0 || c.Ref.At < 0 || c.Ref.At > placeMost || c.Ref.Len < 0 || c.Ref.Len > valueMost))
		}
	case 2:
		fault(r.Seq != 0)
		fault(len(r.Changes) != 0)
		fault(r.Move.Serial == 0)
		fault(r.Move.From < 0 || r.Move.From > placeMost)
		fault(r.Move.To < 0 || r.Move.To > placeMost)
		fault(r.Move.From == r.Move.To)
		fault(r.Move.N < 1 || r.Move.N > partsMost)
	default:
		fault(true)
	}
	return faults == 0
}

// tape is bytes that are taken from the front; a fault ends the reading by a panic that bears it.
type tape []byte

func (b *tape) one() byte {
	if len(*b) == 0 {
		panic(api.ErrShort)
	}
	c := (*b)[0]
	*b = (*b)[1:]
	return c
}

func (b *tape) number() uint64 {
	v := uint64(0)
	for i := 0; ; i++ {
		c := b.one()
		if i == 9 && c > 1 || i > 0 && c == 0 {
			panic(api.ErrForm)
		}
		v += uint64(c%128) << (7 * i)
		if c < 128 {
			return v
		}
	}
}

func (b *tape) upTo(most uint64) int {
	v := b.number()
	if v > most {
		panic(api.ErrForm)
	}
	return int(v)
}

func (b *tape) text() string {
	n := b.number()
	if n > keyMost {
		panic(api.ErrLarge)
	}
	text := ""
	for range n {
		text += string([]byte{b.one()})
	}
	return text
}

func (b *tape) change() api.Change {
	key := b.text()
	switch b.one() {
	case 0:
		serial := b.number()
		at := b.upTo(intMost)
		return ref(key, serial, at, b.upTo(intMost))
	case 1:
		return gone(key)
	}
	panic(api.ErrForm)
}

// plainRead is Read by the chapter's words.
func plainRead(b []byte) (r api.Record, e api.Errno) {
	defer func() {
		if fault := recover(); fault != nil {
			r, e = api.Record{}, fault.(api.Errno)
		}
	}()
	in := tape(b)
	switch r.Kind = int(in.one()); r.Kind {
	case 1:
		r.Seq = in.number()
		for range in.upTo(opsMost) {
			r.Changes = append(r.Changes, in.change())
		}
	case 2:
		r.Move.Serial = in.number()
		r.Move.From = in.upTo(intMost)
		r.Move.To = in.upTo(intMost)
		r.Move.N = in.upTo(intMost)
	default:
		panic(api.ErrForm)
	}
	if len(in) > 0 || !plainMay(r) {
		panic(api.ErrForm)
	}
	return r, api.OK
}

func raw(t *testing.T, s string) []byte {
	t.Helper()
	b, err := hex.DecodeString(strings.ReplaceAll(s, " ", ""))
	if err != nil {
		t.Fatal(err)
	}
	return b
}

// What the other tests lean on: the records that may be are told so by the model, and are read by it as they are.
func TestModel(t *testing.T) {
	for i, r := range records() {
		b := plainBytes(r)
		if got, e := plainRead(b); e != api.OK || !sameRecord(got, r) || !plainMay(r) {
			t.Errorf("record %d: the model reads %+v, error %d", i, got, e)
		}
	}
	if n := len(plainBytes(full())); n != 1+10+1+32*(1+64+1+10+3+2) || n > 8192 {
		t.Errorf("the longest record has %d bytes", n)
	}
}
