package batch_test

import (
	"bytes"
	"maps"
	"slices"
	"strconv"
	"strings"
	"testing"

	"dunnage/api"
	"dunnage/batch"
)

func TestLast(t *testing.T) {
	long := strings.Repeat("k", 5000)
	rows := []struct{ ops, want []api.Op }{
		{nil, nil},
		{[]api.Op{}, nil},
		{[]api.Op{put("b", "1"), put("a", "2"), del("b")}, []api.Op{put("a", "2"), del("b")}}, // example 1
		{[]api.Op{put("a", "1")}, []api.Op{put("a", "1")}},
		{[]api.Op{del("a")}, []api.Op{del("a")}},
		{[]api.Op{del("a"), put("a", "1")}, []api.Op{put("a", "1")}},
		{[]api.Op{put("a", "1"), del("a")}, []api.Op{del("a")}},
		{[]api.Op{put("a", "1"), put("a", "2"), put("a", "")}, []api.Op{put("a", "")}},
		{[]api.Op{put("c", "1"), put("b", "2"), put("a", "3")}, []api.Op{put("a", "3"), put("b", "2"), put("c", "1")}},
		{[]api.Op{put("ab", "1"), put("a", "2"), put("a\x00", "3")}, []api.Op{put("a", "2"), put("a\x00", "3"), put("ab", "1")}},
		{[]api.Op{put("\xff", "1"), put("\x7f", "2"), put("\x80", "3"), put("\x00", "4")}, []api.Op{put("\x00", "4"), put("\x7f", "2"), put("\x80", "3"), put("\xff", "1")}},
		// Lists that are no batch have their last operations, too.
		{[]api.Op{put("a", "1"), put("", "2"), del("")}, []api.Op{del(""), put("a", "1")}},
		{[]api.Op{put(long+"l", "1"), put(long, "2"), put(long, "3")}, []api.Op{put(long, "3"), put(long+"l", "1")}},
		{[]api.Op{{Key: "a", Value: []byte("1"), Delete: true}}, []api.Op{{Key: "a", Value: []byte("1"), Delete: true}}},
		{make([]api.Op, 40), make([]api.Op, 1)},
	}
	for i, r := range rows {
		if got := batch.Last(r.ops); !sameOps(got, r.want) {
			t.Errorf("P10.1: Last of the row %d: %+v; want %+v", i, got, r.want)
		}
	}
}

// anyOps is n operations of few keys, each with a value of its own.
func anyOps(c *chance, n int, names []string) []api.Op {
	var ops []api.Op
	for i := range n {
		key := names[c.next(len(names))]
		switch c.next(5) {
		case 0:
			ops = append(ops, del(key))
		case 1:
			ops = append(ops, api.Op{Key: key})
		default:
			ops = append(ops, put(key, strconv.Itoa(i)))
		}
	}
	return ops
}

func names() []string {
	return []string{"", "\x00", "a", "a\x00", "ab", "b", "k", strings.Repeat("k", 64), strings.Repeat("k", 65), "\x7f", "\x80", "\xff"}
}

func TestLastOfAnyLists(t *testing.T) {
	c := chance(10)
	for n := range 80 {
		for range 30 {
			ops := anyOps(&c, n, names()[:1+c.next(len(names()))])
			if got, want := batch.Last(ops), plainLast(ops); !sameOps(got, want) {
				t.Fatalf("P10.1: Last of %+v: %+v; want %+v", ops, got, want)
			}
		}
	}
}

// All lists of up to five operations of three keys.
func TestLastOfAllShortLists(t *testing.T) {
	var grow func(ops []api.Op)
	grow = func(ops []api.Op) {
		if got, want := batch.Last(ops), plainLast(ops); !sameOps(got, want) {
			t.Fatalf("P10.1: Last of %+v: %+v; want %+v", ops, got, want)
		}
		if len(ops) == 5 {
			return
		}
		for _, key := range []string{"b", "a", "ab"} {
			grow(append(slices.Clone(ops), put(key, strconv.Itoa(len(ops)))))
			grow(append(slices.Clone(ops), del(key)))
		}
	}
	grow(nil)
}

// A list of many operations is sorted, not gone through once for each of them.
func TestLastOfAGreatList(t *testing.T) {
	c := chance(3)
	var ops []api.Op
	want := map[string]int{}
	for i := range 300000 {
		key := strconv.Itoa(c.next(100000))
		ops = append(ops, put(key, strconv.Itoa(i)))
		want[key] = i
	}
	got := batch.Last(ops)
	sorted := slices.SortedFunc(maps.Keys(want), stands)
	if len(got) != len(sorted) {
		t.Fatalf("P10.1: Last of %d operations of %d keys: %d", len(ops), len(sorted), len(got))
	}
	for i, op := range got {
		if op.Key != sorted[i] || string(op.Value) != strconv.Itoa(want[op.Key]) || op.Delete {
			t.Fatalf("P10.1: Last of %d operations: %d is %+v", len(ops), i, op)
		}
	}
}

// 'What follows': Last of Last is the same.
func TestLastOfLast(t *testing.T) {
	c := chance(77)
	for n := range 60 {
		for range 20 {
			once := batch.Last(anyOps(&c, n, names()))
			if again := batch.Last(once); !sameOps(again, once) {
				t.Fatalf("what follows: Last of %+v: %+v", once, again)
			}
		}
	}
}

// carried is what pairs become by operations, one by one.
func carried(pairs map[string]string, ops []api.Op) map[string]string {
	out := maps.Clone(pairs)
	for _, op := range ops {
		if op.Delete {
			delete(out, op.Key)
		} else {
			out[op.Key] = string(op.Value)
		}
	}
	return out
}

// 'What follows': carried out one by one, or by their Last, operations come to one thing.
func TestLastComesToOneThing(t *testing.T) {
	c := chance(5)
	pairs := map[string]string{}
	for n := range 60 {
		for range 20 {
			ops := anyOps(&c, n, names())
			all, last := carried(pairs, ops), carried(pairs, batch.Last(ops))
			if !maps.Equal(all, last) {
				t.Fatalf("what follows: %+v: one by one %v, by their Last %v", ops, all, last)
			}
			pairs = all
		}
	}
}

// cloned is operations with values of their own, each with room behind it, and the list, too.
func cloned(ops []api.Op) []api.Op {
	all := append(slices.Clone(ops), put("behind", "the list"))
	for i := range all {
		value := make([]byte, len(all[i].Value), len(all[i].Value)+20)
		copy(value, all[i].Value)
		copy(value[:cap(value)][len(value):], "behind the value")
		all[i].Value = value
	}
	return all[:len(ops)]
}

// sameWithRoom is R9 of two lists of operations, with the room behind the first one's and its values' ends.
func sameWithRoom(a, b []api.Op) bool {
	whole := a[:len(a)+1]
	for _, op := range whole {
		if v := op.Value[:cap(op.Value)][len(op.Value):]; !bytes.HasPrefix(v, []byte("behind the value")) {
			return false
		}
	}
	return sameOps(a, b) && sameOps(whole[len(a):], []api.Op{put("behind", "the list")})
}

// R3: what is handed in stays, with the room behind it; what is handed out is new memory.
func TestLastSharesNothing(t *testing.T) {
	c := chance(9)
	for n := range 40 {
		ops := anyOps(&c, n, names())
		in := cloned(ops)
		got := batch.Last(in)
		if !sameWithRoom(in, ops) {
			t.Fatalf("R3: Last of %+v changed what it was given: %+v", ops, in)
		}
		want := plainLast(ops)
		for i := range in {
			value := in[i].Value[:cap(in[i].Value)]
			for k := range value {
				value[k] ^= 0xff
			}
			in[i] = put("other", "thing")
		}
		if !sameOps(got, want) {
			t.Fatalf("R3: Last of %+v keeps what it was given: %+v", ops, got)
		}
	}
}

// R3: who writes into what Last answered changes nothing else: not what was handed in, and no other value of the answer.
func TestLastIsNewMemory(t *testing.T) {
	c := chance(11)
	shared := []byte("one value of all")
	for n := range 40 {
		ops := anyOps(&c, n, names())
		for i := range ops {
			if !ops[i].Delete {
				ops[i].Value = shared
			}
		}
		in := cloned(ops)
		for i := range in { // all values in one memory
			if !in[i].Delete {
				in[i].Value = shared[:len(shared):len(shared)]
			}
		}
		got, want := batch.Last(in), plainLast(ops)
		for i := range got {
			value := got[i].Value[:cap(got[i].Value)]
			for k := range value {
				value[k] ^= 0xff
			}
			if string(shared) != "one value of all" || !sameOps(got[i+1:], want[i+1:]) {
				t.Fatalf("R3: who writes into the value %d of Last changes another one", i)
			}
		}
		got = got[:cap(got)]
		clear(got)
		if !sameOps(in, ops) {
			t.Fatalf("R3: who writes into what Last answered changes what was handed in")
		}
	}
}
