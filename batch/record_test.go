package batch_test

import (
	"bytes"
	"encoding/hex"
	"math"
	"slices"
	"strings"
	"testing"

	"dunnage/api"
	"dunnage/batch"
)

// holdRecord holds May and Write of r against the words, and answers whether it may be.
func holdRecord(t *testing.T, r api.Record) bool {
	t.Helper()
	may := plainMay(r)
	if got := batch.May(r); got != may {
		t.Errorf("P10.2: May(%+v): %v; want %v", r, got, may)
	}
	b, e := batch.Write(r)
	if may && (e != api.OK || !bytes.Equal(b, plainBytes(r))) {
		t.Errorf("P10.2: Write(%+v): %x, error %d; want %x", r, b, e, plainBytes(r))
	}
	if !may && (e != api.ErrForm || len(b) != 0) {
		t.Errorf("P10.2: Write(%+v), which may not be: %x, error %d; want ErrForm", r, b, e)
	}
	return may
}

func TestWrite(t *testing.T) {
	rows := []struct {
		r    api.Record
		want string
	}{
		{moveOf(5, 9, 2, 3), "0205090203"}, // example 1
		{moveOf(300, 0, placeMost, 9), "02ac020080800409"},
		{moveOf(math.MaxUint64, placeMost, 127, 1), "02ffffffffffffffffff018080047f01"},
		{batchOf(7, ref("a", 300, 4, 9), gone("b")), "010702016100ac020409016201"},
		{batchOf(1, gone("a")), "010101016101"},
		{batchOf(128, ref("\x00\xff", 1, 0, 0)), "018001010200ff00010000"},
		{batchOf(math.MaxUint64, ref("ab", math.MaxUint64, placeMost, valueMost)), "01ffffffffffffffffff010102616200ffffffffffffffffff018080048020"},
	}
	for _, r := range rows {
		if b, e := batch.Write(r.r); e != api.OK || hex.EncodeToString(b) != r.want {
			t.Errorf("P10.2: Write(%+v): %x, error %d; want %s", r.r, b, e, r.want)
		}
	}
	for i, r := range records() {
		if !holdRecord(t, r) {
			t.Errorf("the record %d may not be", i)
		}
	}
}

// ints are numbers about each bound that a field of a record has, and far beyond.
func ints() []int {
	l := []int{math.MinInt, -1 << 32, -placeMost, -1, math.MaxInt, 1 << 32, 1<<32 + 1, 1 << 62, 256, 257}
	for _, bound := range []int{0, 1, partsMost, valueMost, placeMost} {
		l = append(l, bound-1, bound, bound+1)
	}
	return l
}

func TestMayOfMoves(t *testing.T) {
	may := 0
	for _, serial := range []uint64{0, 1, 2, 1 << 63, math.MaxUint64} {
		for _, from := range ints() {
			for _, to := range ints() {
				for _, n := range ints() {
					if holdRecord(t, moveOf(serial, from, to, n)) {
						may++
					}
				}
			}
		}
	}
	if may < 100 {
		t.Errorf("only %d of these moves may be", may)
	}
	for n := -20; n < 300; n++ {
		holdRecord(t, moveOf(1, 2, 3, n))
	}
}

func TestMayOfRefs(t *testing.T) {
	may := 0
	for _, serial := range []uint64{0, 1, 2, 1 << 63, math.MaxUint64} {
		for _, at := range ints() {
			for _, size := range ints() {
				c := ref("b", serial, at, size)
				for _, r := range []api.Record{batchOf(1, c), batchOf(9, gone("a"), c), batchOf(9, c, gone("c")), batchOf(9, gone("a"), c, ref("c", 1, 2, 3))} {
					if holdRecord(t, r) {
						may++
					}
				}
				c.Delete = true
				if holdRecord(t, batchOf(1, c)) != (c.Ref == api.Ref{}) {
					t.Errorf("P10.2: a Delete with the Ref %+v", c.Ref)
				}
			}
		}
	}
	if may < 100 {
		t.Errorf("only %d of these batches may be", may)
	}
}

func TestMayOfKinds(t *testing.T) {
	for _, r := range records() {
		for _, kind := range []int{math.MinInt, -256, -255, -254, -2, -1, 0, 1, 2, 3, 4, 127, 128, 255, 256, 257, 258, 1<<32 + 1, 1<<32 + 2, math.MaxInt} {
			o := r
			o.Kind = kind
			if may := holdRecord(t, o); may != (kind == r.Kind) {
				t.Errorf("P10.2: %+v as a record of the kind %d: %v", r, kind, may)
			}
		}
	}
	if holdRecord(t, api.Record{}) {
		t.Error("P10.2: the zero record may be")
	}
}

// What is the other kind's has to be zero.
func TestMayOfTheOtherKindsFields(t *testing.T) {
	good := batchOf(7, ref("a", 300, 4, 9), gone("b"))
	for _, m := range []api.Move{{Serial: 1}, {From: 1}, {To: 1}, {N: 1}, {From: -1}, {Serial: 5, From: 9, To: 2, N: 3}} {
		r := good
		r.Move = m
		if holdRecord(t, r) {
			t.Errorf("P10.2: a batch with the move %+v may be", m)
		}
	}
	for _, seq := range []uint64{1, 2, 1 << 63, math.MaxUint64} {
		r := moveOf(5, 9, 2, 3)
		r.Seq = seq
		if holdRecord(t, r) {
			t.Errorf("P10.2: a move of Seq %d may be", seq)
		}
	}
	for _, l := range [][]api.Change{{{}}, {gone("a")}, {ref("a", 1, 1, 1)}, good.Changes, make([]api.Change, 33)} {
		r := moveOf(5, 9, 2, 3)
		r.Changes = l
		if holdRecord(t, r) {
			t.Errorf("P10.2: a move with the changes %+v may be", l)
		}
	}
	r := moveOf(5, 9, 2, 3)
	r.Changes = make([]api.Change, 0, 4) // no list, and an empty one, are the same
	if !holdRecord(t, r) {
		t.Error("P10.2: a move with an empty list of changes may not be")
	}
}

func TestMayOfSeqs(t *testing.T) {
	for _, seq := range []uint64{0, 1, 2, 127, 128, 1 << 62, 1<<62 + 1, 1 << 63, math.MaxUint64} {
		if may := holdRecord(t, batchOf(seq, gone("a"))); may != (seq > 0) {
			t.Errorf("P10.2: a batch of Seq %d: %v", seq, may)
		}
	}
}

func TestMayOfCounts(t *testing.T) {
	for n := range 70 {
		if may := holdRecord(t, deletes(n)); may != (n >= 1 && n <= opsMost) {
			t.Errorf("P10.2: a batch of %d changes: %v", n, may)
		}
	}
	for _, n := range []int{256, 257, 288, 1000} {
		if holdRecord(t, deletes(n)) {
			t.Errorf("P10.2: a batch of %d changes may be", n)
		}
	}
}

func TestMayOfKeys(t *testing.T) {
	for n := range 300 {
		key := strings.Repeat("k", n)
		want := n >= 1 && n <= keyMost
		for _, r := range []api.Record{batchOf(1, gone(key)), batchOf(1, ref(key, 1, 1, 1)), batchOf(1, ref(key, 1, 1, 1), gone("l")), batchOf(1, gone("a"), ref(key, 1, 1, 1))} {
			if may := holdRecord(t, r); may != want {
				t.Errorf("P10.2: a batch with a key of %d bytes: %v", n, may)
			}
		}
	}
}

// All lists of up to four changes of five keys: those that rise may be.
func TestMayOfOrders(t *testing.T) {
	may := 0
	var grow func(l []api.Change)
	grow = func(l []api.Change) {
		if holdRecord(t, batchOf(1, l...)) {
			may++
		}
		if len(l) == 4 {
			return
		}
		for i, key := range []string{"a", "a\x00", "ab", "\x7f", "\x80"} {
			c := gone(key)
			if i%2 == 0 {
				c = ref(key, 1, 2, 3)
			}
			grow(append(slices.Clone(l), c))
		}
	}
	grow(nil)
	if want := 5 + 10 + 10 + 5; may != want {
		t.Errorf("P10.2: %d lists of up to four of five keys may be; want %d", may, want)
	}
}

// One fault at each place of a full batch.
func TestMayOfFaultsAtEachPlace(t *testing.T) {
	faults := []func(c *api.Change){
		func(c *api.Change) { c.Key = "" },
		func(c *api.Change) { c.Key += "k" },
		func(c *api.Change) { c.Key = "kk" },
		func(c *api.Change) { c.Ref.Serial = 0 },
		func(c *api.Change) { c.Ref.At = placeMost + 1 },
		func(c *api.Change) { c.Ref.At = -1 },
		func(c *api.Change) { c.Ref.Len = valueMost + 1 },
		func(c *api.Change) { c.Ref.Len = -1 },
		func(c *api.Change) { c.Ref = api.Ref{} },
		func(c *api.Change) { c.Delete = true },
		func(c *api.Change) { *c = api.Change{} },
	}
	for at := range opsMost {
		for i, fault := range faults {
			r := full()
			fault(&r.Changes[at])
			// A key that is shorter stands below all the others: at the first place it may be.
			if may := holdRecord(t, r); may != (at == 0 && i == 2) {
				t.Errorf("P10.2: a full batch with the fault %d at %d: %v", i, at, may)
			}
		}
		if r := full(); at > 0 {
			r.Changes[at].Key = r.Changes[at-1].Key
			if holdRecord(t, r) {
				t.Errorf("P10.2: a full batch with a key twice at %d may be", at)
			}
		}
	}
}
