package plain_test

import (
	"strings"
	"testing"

	"dunnage/api"
	"dunnage/batch"
	"dunnage/plain"
)

func mustDo(t *testing.T, l []api.Pair, b []api.Op) []api.Pair {
	t.Helper()
	got, e := plain.Do(l, b)
	if e != api.OK {
		t.Fatalf("P11.2: Do of %s with %+v: error %d", told(l), b, e)
	}
	return got
}

// 'What follows': Do of some operations, and then of others, is Do of all.
func TestDoOfSomeAndThenOfOthers(t *testing.T) {
	c := chance(41)
	for range 200 {
		l := anyTable(&c, names()).pairs()
		b := anyOps(&c, 2+c.next(opsMost-1), names())
		all := mustDo(t, l, b)
		for part := 1; part < len(b); part++ {
			if got := mustDo(t, mustDo(t, l, b[:part]), b[part:]); !same(got, all) {
				t.Fatalf("what follows: Do of %s with %+v, parted at %d: %s; want %s", told(l), b, part, told(got), told(all))
			}
		}
		one := l
		for _, op := range b {
			one = mustDo(t, one, ops(op))
		}
		if !same(one, all) {
			t.Fatalf("what follows: Do of %s with %+v, one by one: %s; want %s", told(l), b, told(one), told(all))
		}
	}
}

// Chapter 10: carried out one by one, or by their Last, operations come to one thing.
func TestDoOfTheLast(t *testing.T) {
	c := chance(42)
	for range 3000 {
		l := anyTable(&c, names()).pairs()
		b := anyOps(&c, 1+c.next(opsMost), names())
		if got, want := mustDo(t, l, batch.Last(b)), mustDo(t, l, b); !same(got, want) {
			t.Fatalf("what follows: Do of %s with the Last of %+v: %s; want %s", told(l), b, told(got), told(want))
		}
	}
}

// made is what Differ told, as operations.
func made(l []api.Diff) []api.Op {
	var out []api.Op
	for _, d := range l {
		if d.Is {
			out = append(out, api.Op{Key: d.Key, Value: d.New})
		} else {
			out = append(out, del(d.Key))
		}
	}
	return out
}

// 'What follows': what Differ tells, done to a, makes b; and without any one of it b is not made.
func TestDifferTellsWhatHasToBeDone(t *testing.T) {
	c := chance(43)
	for range 1500 {
		a, b := anyTable(&c, names()).pairs(), anyTable(&c, names()).pairs()
		steps := made(plain.Differ(a, b))
		if len(steps) == 0 {
			if !same(a, b) {
				t.Fatalf("what follows: Differ of %s and %s tells nothing", told(a), told(b))
			}
			continue
		}
		if got := mustDo(t, a, steps); !same(got, b) {
			t.Fatalf("what follows: what Differ tells of %s and %s makes %s", told(a), told(b), told(got))
		}
		for at := range steps {
			if len(steps) == 1 {
				break // nothing is no batch
			}
			fewer := append(append([]api.Op{}, steps[:at]...), steps[at+1:]...)
			if got := mustDo(t, a, fewer); same(got, b) {
				t.Fatalf("what follows: of what Differ tells of %s and %s %d is not needed", told(a), told(b), at)
			}
		}
	}
}

// Great lists are made of one another by batches: as many operations, and bytes, as one may have.
func TestDifferByBatches(t *testing.T) {
	c := chance(44)
	var many []string
	for i := range 26 * 26 {
		many = append(many, string([]byte{byte('a' + i/26), byte('a' + i%26)}))
	}
	for range 30 {
		from, to := anyTable(&c, many), anyTable(&c, many)
		for _, m := range []table{from, to} {
			for range 10 {
				m[many[c.next(len(many))]] = strings.Repeat("g", valueMost-c.next(2))
			}
		}
		a, b := from.pairs(), to.pairs()
		for steps := made(plain.Differ(a, b)); len(steps) > 0; {
			n := min(len(steps), opsMost)
			for batch.Check(steps[:n]) == api.ErrLarge {
				n--
			}
			a = mustDo(t, a, steps[:n])
			steps = steps[n:]
			if left := plain.Differ(a, b); len(left) != len(steps) {
				t.Fatalf("what follows: behind a batch %d are told; want %d", len(left), len(steps))
			}
		}
		if !same(a, b) {
			t.Fatalf("what follows: batches of what Differ tells make %d pairs; want %d", len(a), len(b))
		}
	}
}

// What Do answers may be, and Get, Scan and Bytes tell it as the model does.
func TestDoAnswersAList(t *testing.T) {
	c := chance(45)
	for range 500 {
		m := anyTable(&c, names())
		b := anyOps(&c, 1+c.next(opsMost), names())
		got, want := mustDo(t, m.pairs(), b), m.do(b)
		if e := plain.Check(got); e != api.OK {
			t.Fatalf("what follows: Check of what Do answered: error %d", e)
		}
		if n := plain.Bytes(got); n != want.bytes() {
			t.Fatalf("what follows: Bytes behind Do: %d; want %d", n, want.bytes())
		}
		if all := plain.Scan(got, "", "", len(got)); !same(all, want.pairs()) {
			t.Fatalf("what follows: Scan behind Do: %s; want %s", told(all), told(want.pairs()))
		}
		for _, key := range texts() {
			v, is := plain.Get(got, key)
			if text, has := want[key]; is != has || string(v) != text {
				t.Fatalf("what follows: Get of %.20q behind Do: %q, %v; want %q, %v", key, v, is, text, has)
			}
		}
	}
}
