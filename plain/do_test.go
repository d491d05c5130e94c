package plain_test

import (
	"slices"
	"strconv"
	"strings"
	"testing"

	"dunnage/api"
	"dunnage/plain"
)

func TestDo(t *testing.T) {
	three := list("b", "2", "d", "4", "f", "6")
	rows := []struct {
		what string
		l    []api.Pair
		ops  []api.Op
		want []api.Pair
	}{
		{"example 1", list("a", "1", "b", "2"), ops(put("b", "3"), del("a"), put("c", "4")), list("b", "3", "c", "4")},
		{"a put into nil", nil, ops(put("a", "1")), list("a", "1")},
		{"a put into no pair", []api.Pair{}, ops(put("a", "1")), list("a", "1")},
		{"a put of nothing", nil, ops(api.Op{Key: "a"}), list("a", "")},
		{"a put of no bytes", three, ops(put("c", "")), list("b", "2", "c", "", "d", "4", "f", "6")},
		{"a new key at the front", three, ops(put("a", "9")), list("a", "9", "b", "2", "d", "4", "f", "6")},
		{"a new key in the middle", three, ops(put("e", "9")), list("b", "2", "d", "4", "e", "9", "f", "6")},
		{"a new key at the end", three, ops(put("g", "9")), list("b", "2", "d", "4", "f", "6", "g", "9")},
		{"a new key just behind one", three, ops(put("d\x00", "9")), list("b", "2", "d", "4", "d\x00", "9", "f", "6")},
		{"the first key's value", three, ops(put("b", "9")), list("b", "9", "d", "4", "f", "6")},
		{"a middle key's value", three, ops(put("d", "9")), list("b", "2", "d", "9", "f", "6")},
		{"the last key's value", three, ops(put("f", "9")), list("b", "2", "d", "4", "f", "9")},
		{"the same value", three, ops(put("d", "4")), three},
		{"a value of no bytes in the place of one", three, ops(put("d", "")), list("b", "2", "d", "", "f", "6")},
		{"the first one gone", three, ops(del("b")), list("d", "4", "f", "6")},
		{"a middle one gone", three, ops(del("d")), list("b", "2", "f", "6")},
		{"the last one gone", three, ops(del("f")), list("b", "2", "d", "4")},
		{"the only one gone", list("a", "1"), ops(del("a")), nil},
		{"all gone", three, ops(del("d"), del("f"), del("b")), nil},
		{"a Delete of what is not there, at the front", three, ops(del("a")), three},
		{"a Delete of what is not there, in the middle", three, ops(del("e")), three},
		{"a Delete of what is not there, at the end", three, ops(del("g")), three},
		{"a Delete of what begins with a key", three, ops(del("d\x00"), del("dd")), three},
		{"a Delete from nil", nil, ops(del("a")), nil},
		{"a Delete again", three, ops(del("d"), del("d")), list("b", "2", "f", "6")},
		{"a Delete with a value of no bytes", three, ops(api.Op{Key: "d", Value: []byte{}, Delete: true}), list("b", "2", "f", "6")},
		{"puts of one key", nil, ops(put("a", "1"), put("a", "2"), put("a", "3")), list("a", "3")},
		{"puts of one key that is there", three, ops(put("d", "1"), put("d", "2")), list("b", "2", "d", "2", "f", "6")},
		{"a put, and its Delete", three, ops(put("e", "9"), del("e")), three},
		{"a put of one that is there, and its Delete", three, ops(put("d", "9"), del("d")), list("b", "2", "f", "6")},
		{"a Delete, and a put", three, ops(del("d"), put("d", "9")), list("b", "2", "d", "9", "f", "6")},
		{"a Delete of none, and a put", three, ops(del("a"), put("a", "9")), list("a", "9", "b", "2", "d", "4", "f", "6")},
		{"a put, its Delete, and a put", nil, ops(put("a", "1"), del("a"), put("a", "2")), list("a", "2")},
		{"puts that fall", nil, ops(put("c", "1"), put("b", "2"), put("a", "3")), list("a", "3", "b", "2", "c", "1")},
		{"puts among others of one key", nil, ops(put("b", "1"), put("a", "2"), put("b", "3"), del("a"), put("c", "4")), list("b", "3", "c", "4")},
		{"keys of any bytes", nil, ops(put("\xff", "1"), put("\x80", "2"), put("\x7f", "3"), put("\x00", "4")), list("\x00", "4", "\x7f", "3", "\x80", "2", "\xff", "1")},
	}
	for _, r := range rows {
		if got, e := plain.Do(r.l, r.ops); e != api.OK || !same(got, r.want) {
			t.Errorf("P11.2: Do of %s: %s, error %d; want %s", r.what, told(got), e, told(r.want))
		}
	}
}

// The greatest keys, values, and batches that may be are done.
func TestDoAtTheBounds(t *testing.T) {
	long := strings.Repeat("k", keyMost)
	great := strings.Repeat("v", valueMost)
	var many, full []api.Op
	for i := range opsMost {
		key := string(rune('0'+i)) + long[1:]
		many = append(many, del(key))
		full = append(full, put(key, great[:batchMost/opsMost-keyMost]))
	}
	rows := []struct {
		what string
		l    []api.Pair
		ops  []api.Op
	}{
		{"the longest key and value", nil, ops(put(long, great))},
		{"the longest value in the place of another one", list("a", "1", long, "1"), ops(put(long, great))},
		{"a short value in the place of the longest one", list("a", "1", long, great), ops(put(long, "1"))},
		{"a Delete of the longest ones", list("a", "1", long, great), ops(del(long))},
		{"32 Deletes", list("a", "1"), many},
		{"32 puts, of 32768 bytes", list("a", "1"), full},
	}
	for _, r := range rows {
		want := tableOf(r.l).do(r.ops).pairs()
		if got, e := plain.Do(r.l, r.ops); e != api.OK || !same(got, want) {
			t.Errorf("P11.2: Do of %s: %s, error %d; want %s", r.what, told(got), e, told(want))
		}
	}
}

// wrongs are operations that are no batch, with their error.
func wrongs() []struct {
	what string
	ops  []api.Op
	e    api.Errno
} {
	great := strings.Repeat("v", valueMost)
	return []struct {
		what string
		ops  []api.Op
		e    api.Errno
	}{
		{"nil", nil, api.ErrArg},
		{"no operation", []api.Op{}, api.ErrArg},
		{"a put of no key", ops(put("", "1")), api.ErrArg},
		{"a Delete of no key", ops(del("")), api.ErrArg},
		{"no key at the end", ops(put("a", "1"), del("b"), put("", "1")), api.ErrArg},
		{"a key of 65 bytes", ops(put(strings.Repeat("k", keyMost+1), "1")), api.ErrArg},
		{"a Delete of a key of 65 bytes", ops(del(strings.Repeat("k", keyMost+1))), api.ErrArg},
		{"a Delete with a value", ops(api.Op{Key: "a", Value: []byte("1"), Delete: true}), api.ErrArg},
		{"33 puts", slices.Repeat(ops(put("a", "1")), opsMost+1), api.ErrLarge},
		{"33 Deletes", slices.Repeat(ops(del("a")), opsMost+1), api.ErrLarge},
		{"a value of 4097 bytes", ops(put("a", great+"v")), api.ErrLarge},
		{"a value of 4097 bytes at the end", ops(put("a", "1"), del("b"), put("c", great+"v")), api.ErrLarge},
		{"a value of 4097 bytes that goes again", ops(put("a", great+"v"), del("a")), api.ErrLarge},
		{"more than 32768 bytes", slices.Repeat(ops(put("a", great)), 8), api.ErrLarge},
		{"33 puts, and no key", append(slices.Repeat(ops(put("a", "1")), opsMost), put("", "1")), api.ErrArg},
		{"a value of 4097 bytes, and no key", ops(put("a", great+"v"), put("", "1")), api.ErrArg},
	}
}

func TestDoOfWrongOperations(t *testing.T) {
	for _, l := range [][]api.Pair{nil, list("a", "1", "b", "2")} {
		for _, r := range wrongs() {
			if got, e := plain.Do(l, r.ops); e != r.e || got != nil {
				t.Errorf("P11.2: Do of %s with %s: %s, error %d; want error %d", told(l), r.what, told(got), e, r.e)
			}
		}
	}
}

// R5: ErrForm is named first, whatever the operations are.
func TestDoTellsTheListFirst(t *testing.T) {
	for what, l := range bads() {
		for _, r := range wrongs() {
			if got, e := plain.Do(l, r.ops); e != api.ErrForm || got != nil {
				t.Errorf("P11.2: Do of %s with %s: %s, error %d; want ErrForm", what, r.what, told(got), e)
			}
		}
		// Operations that would mend the list do not.
		for _, mend := range [][]api.Op{ops(put("a", "1")), ops(del("a"), del("b"), del("c")), ops(put("a", "1"), put("b", "1"))} {
			if got, e := plain.Do(l, mend); e != api.ErrForm || got != nil {
				t.Errorf("P11.2: Do of %s: %s, error %d; want ErrForm", what, told(got), e)
			}
		}
	}
}

// All lists of three keys behind all short rows of operations.
func TestDoOfAllShortLists(t *testing.T) {
	var steps []api.Op
	for _, key := range []string{"a", "ab", "b", "c"} {
		steps = append(steps, put(key, "1"), put(key, ""), del(key))
	}
	for _, m := range shortTables([]string{"a", "ab", "c"}, []string{"1", ""}) {
		var grow func(l []api.Op)
		grow = func(l []api.Op) {
			if len(l) > 0 {
				if got, e := plain.Do(m.pairs(), l); e != api.OK || !same(got, m.do(l).pairs()) {
					t.Fatalf("P11.2: Do of %s with %+v: %s, error %d", told(m.pairs()), l, told(got), e)
				}
			}
			if len(l) == 3 {
				return
			}
			for _, op := range steps {
				grow(append(slices.Clone(l), op))
			}
		}
		grow(nil)
	}
}

func TestDoOfAnyLists(t *testing.T) {
	c := chance(31)
	for range 300 {
		m := anyTable(&c, names())
		for n := 1; n <= opsMost; n++ {
			l := anyOps(&c, n, names())
			if got, e := plain.Do(m.pairs(), l); e != api.OK || !same(got, m.do(l).pairs()) {
				t.Fatalf("P11.2: Do of %s with %+v: %s, error %d; want %s", told(m.pairs()), l, told(got), e, told(m.do(l).pairs()))
			}
		}
	}
}

// A list that grows by many batches, and goes again, is at each time what the model is.
func TestDoOfARow(t *testing.T) {
	c := chance(6)
	var l []api.Pair
	m := table{}
	for i := range 600 {
		var b []api.Op
		for range 1 + c.next(opsMost) {
			key := "k" + strconv.Itoa(c.next(800))
			if c.next(600) < i {
				b = append(b, del(key))
			} else {
				b = append(b, put(key, strconv.Itoa(i)))
			}
		}
		m = m.do(b)
		got, e := plain.Do(l, b)
		if e != api.OK || !same(got, m.pairs()) || plain.Check(got) != api.OK {
			t.Fatalf("P11.2: Do of the batch %d: %d pairs, error %d; want %d", i, len(got), e, len(m))
		}
		l = got
	}
}
