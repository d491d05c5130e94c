package plain_test

import (
	"bytes"
	"testing"

	"dunnage/api"
	"dunnage/plain"
)

const room = "room behind"

// roomy is b in new memory, with room behind it.
func roomy(b []byte) []byte {
	all := append(bytes.Clone(b), room...)
	return all[:len(b)]
}

// hasRoom: does the room behind b stand as roomy left it?
func hasRoom(b []byte) bool { return string(b[:len(b)+len(room)][len(b):]) == room }

// given is pairs that are handed in: the list and each value with room behind it.
type given []api.Pair

func give(l []api.Pair) given {
	all := make([]api.Pair, 0, len(l)+3)
	for _, p := range append(append([]api.Pair{}, l...), list("behind", "1", "the", "2", "list", "3")...) {
		all = append(all, api.Pair{Key: p.Key, Value: roomy(p.Value)})
	}
	return given(all[:len(l)])
}

// stays: is all as it was handed in, with the room behind it?
func (g given) stays(l []api.Pair) bool {
	all := g[:len(g)+3]
	for _, p := range all {
		if !hasRoom(p.Value) {
			return false
		}
	}
	return same(g, l) && same(all[len(g):], list("behind", "1", "the", "2", "list", "3"))
}

// giveOps is operations that are handed in, likewise.
func giveOps(l []api.Op) []api.Op {
	all := make([]api.Op, 0, len(l)+1)
	for _, op := range append(append([]api.Op{}, l...), put("behind", "it")) {
		all = append(all, api.Op{Key: op.Key, Value: roomy(op.Value), Delete: op.Delete})
	}
	return all[:len(l)]
}

func opsStay(g, l []api.Op) bool {
	all := g[:len(g)+1]
	for _, op := range all {
		if !hasRoom(op.Value) {
			return false
		}
	}
	return sameOps(g, l) && sameOps(all[len(g):], ops(put("behind", "it")))
}

// spoil writes into b, and into the room behind it.
func spoil(b []byte) {
	b = b[:cap(b)]
	for i := range b {
		b[i] ^= 0xff
	}
}

// spoilPairs writes into all values, and then over all pairs, with the room behind them.
func spoilPairs(l []api.Pair) {
	l = l[:cap(l)]
	for i := range l {
		spoil(l[i].Value)
		l[i] = api.Pair{Key: "spoilt", Value: []byte("pair")}
	}
}

func spoilOps(l []api.Op) {
	l = l[:cap(l)]
	for i := range l {
		spoil(l[i].Value)
		l[i] = put("spoilt", "operation")
	}
}

// answers is what all calls tell of two lists and operations.
type answers struct {
	value   []byte
	done    []api.Pair
	scanned []api.Pair
	diffs   []api.Diff
}

func ask(a, b []api.Pair, l []api.Op, key, lo, hi string, most int) answers {
	var out answers
	plain.Check(a)
	plain.Bytes(a)
	out.value, _ = plain.Get(a, key)
	out.done, _ = plain.Do(a, l)
	out.scanned = plain.Scan(a, lo, hi, most)
	out.diffs = plain.Differ(a, b)
	return out
}

func (x answers) same(y answers) bool {
	return bytes.Equal(x.value, y.value) && same(x.done, y.done) && same(x.scanned, y.scanned) && sameDiffs(x.diffs, y.diffs)
}

// question is what ask is handed beside the lists.
type question struct {
	key, lo, hi string
	most        int
}

func anyQuestion(c *chance) question {
	all := texts()
	q := question{key: all[c.next(len(all))], lo: all[c.next(len(all))], most: c.next(len(all))}
	if c.next(2) == 0 {
		q.hi = all[c.next(len(all))]
	}
	return q
}

// R3: what is handed in stays, with the room behind it, and is not kept.
func TestNothingHandedInIsTouchedOrKept(t *testing.T) {
	c := chance(51)
	for i := range 1000 {
		a, b := anyTable(&c, names()).pairs(), anyTable(&c, names()).pairs()
		if i%5 == 0 {
			a = nil
		}
		l := anyOps(&c, c.next(opsMost+2), names()) // with none, and one more than may be
		q := anyQuestion(&c)
		want := ask(a, b, l, q.key, q.lo, q.hi, q.most)
		ga, gb, gl := give(a), give(b), giveOps(l)
		got := ask(ga, gb, gl, q.key, q.lo, q.hi, q.most)
		if !ga.stays(a) || !gb.stays(b) || !opsStay(gl, l) {
			t.Fatalf("R3: a call changed what it was given: %s, %s, %+v", told(a), told(b), l)
		}
		spoilPairs(ga)
		spoilPairs(gb)
		spoilOps(gl)
		if !got.same(want) {
			t.Fatalf("R3: who writes into what was handed in changes what was answered of %s, %s, %+v", told(a), told(b), l)
		}
	}
}

// R3: lists that may not be stay, too.
func TestBadListsStay(t *testing.T) {
	for what, l := range bads() {
		g := give(l)
		ask(g, nil, ops(put("a", "1"), del("b")), "a", "", "", 9)
		plain.Differ(nil, g)
		if !g.stays(l) {
			t.Errorf("R3: a call changed %s", what)
		}
	}
}

// spoilt spoils one answer after the other, and holds what was not spoilt yet against want: its values share no memory.
func spoilt(got, want answers) bool {
	spoil(got.value)
	for i := range got.done {
		if !same(got.done[i:], want.done[i:]) {
			return false
		}
		spoil(got.done[i].Value)
	}
	for i := range got.scanned {
		if !same(got.scanned[i:], want.scanned[i:]) {
			return false
		}
		spoil(got.scanned[i].Value)
	}
	for i := range got.diffs {
		if !sameDiffs(got.diffs[i:], want.diffs[i:]) {
			return false
		}
		spoil(got.diffs[i].Old)
		if !bytes.Equal(got.diffs[i].New, want.diffs[i].New) {
			return false
		}
		spoil(got.diffs[i].New)
	}
	clear(got.done[:cap(got.done)])
	clear(got.scanned[:cap(got.scanned)])
	clear(got.diffs[:cap(got.diffs)])
	return true
}

// R3: what is answered is new memory: who writes into it changes nothing else, no other value of the answer, and nothing that was handed in.
func TestAnswersAreNewMemory(t *testing.T) {
	c := chance(52)
	for range 1000 {
		a, b := anyTable(&c, names()).pairs(), anyTable(&c, names()).pairs()
		l := anyOps(&c, 1+c.next(opsMost), names())
		q := anyQuestion(&c)
		want := ask(a, b, l, q.key, q.lo, q.hi, q.most)
		ga, gb, gl := give(a), give(b), giveOps(l)
		if !spoilt(ask(ga, gb, gl, q.key, q.lo, q.hi, q.most), want) {
			t.Fatalf("R3: who writes into one value that was answered of %s, %s, %+v changes another one", told(a), told(b), l)
		}
		if !ga.stays(a) || !gb.stays(b) || !opsStay(gl, l) {
			t.Fatalf("R3: who writes into what was answered changes what was handed in: %s, %s, %+v", told(a), told(b), l)
		}
		if !ask(ga, gb, gl, q.key, q.lo, q.hi, q.most).same(want) {
			t.Fatalf("R2: asked again, %s, %s, %+v are answered otherwise", told(a), told(b), l)
		}
	}
}

// R3: values that come in in one memory go out in many.
func TestOneMemoryGoesOutInMany(t *testing.T) {
	c := chance(53)
	for range 300 {
		memory := []byte("one memory of all values")
		a, b := anyTable(&c, names()).pairs(), anyTable(&c, names()).pairs()
		l := anyOps(&c, 1+c.next(opsMost), names())
		for i := range a {
			a[i].Value = memory[:c.next(len(memory))]
		}
		for i := range b {
			b[i].Value = memory[:c.next(len(memory))]
		}
		for i := range l {
			if !l[i].Delete {
				l[i].Value = memory[c.next(9):]
			}
		}
		q := anyQuestion(&c)
		want := ask(give(a), give(b), giveOps(l), q.key, q.lo, q.hi, q.most)
		if !spoilt(ask(a, b, l, q.key, q.lo, q.hi, q.most), want) || string(memory) != "one memory of all values" {
			t.Fatalf("R3: values that came in in one memory share what was answered of %s, %s, %+v", told(a), told(b), l)
		}
	}
}

// R3: nil and an empty list, or no bytes, are the same.
func TestNilAndEmpty(t *testing.T) {
	none := []api.Pair{}
	bare, full := []api.Pair{{Key: "a"}}, []api.Pair{{Key: "a", Value: []byte{}}}
	for _, l := range [][]api.Op{nil, {}, ops(put("a", "1")), ops(del("a")), ops(api.Op{Key: "b"}), ops(api.Op{Key: "b", Value: []byte{}})} {
		for _, q := range []question{{"a", "", "", 9}, {"b", "a", "b", 1}} {
			if !ask(nil, nil, l, q.key, q.lo, q.hi, q.most).same(ask(none, none, l, q.key, q.lo, q.hi, q.most)) {
				t.Errorf("R3: nil is not an empty list: %+v", l)
			}
			if !ask(bare, full, l, q.key, q.lo, q.hi, q.most).same(ask(full, bare, l, q.key, q.lo, q.hi, q.most)) {
				t.Errorf("R3: a value of nil is not one of no bytes: %+v", l)
			}
		}
	}
	if plain.Check(none) != api.OK || plain.Check(bare) != api.OK || plain.Check(full) != api.OK || plain.Bytes(bare) != 1 || plain.Bytes(full) != 1 {
		t.Error("R3: Check or Bytes of nothing")
	}
}
