package batch_test

import (
	"bytes"
	"slices"
	"strings"
	"testing"

	"dunnage/api"
	"dunnage/batch"
)

func TestCheck(t *testing.T) {
	long := strings.Repeat("k", keyMost)
	rows := []struct {
		what string
		ops  []api.Op
		e    api.Errno
	}{
		{"example 1", []api.Op{put("a", "1"), del("b")}, api.OK},
		{"a put of no key, example 1", []api.Op{put("", "1")}, api.ErrArg},
		{"nil", nil, api.ErrArg},
		{"no operation", []api.Op{}, api.ErrArg},
		{"a put of nothing", []api.Op{{Key: "a"}}, api.OK},
		{"a put of no bytes", []api.Op{put("a", "")}, api.OK},
		{"a delete", []api.Op{del("a")}, api.OK},
		{"a delete of no key", []api.Op{del("")}, api.ErrArg},
		{"a delete of no bytes", []api.Op{{Key: "a", Delete: true, Value: []byte{}}}, api.OK},
		{"a delete of no bytes, with room", []api.Op{{Key: "a", Delete: true, Value: make([]byte, 0, 9)}}, api.OK},
		{"a delete of one byte", []api.Op{{Key: "a", Delete: true, Value: []byte{0}}}, api.ErrArg},
		{"a delete with a value", []api.Op{{Key: "a", Delete: true, Value: []byte("1")}}, api.ErrArg},
		{"the longest key", []api.Op{put(long, "1")}, api.OK},
		{"a longer key", []api.Op{put(long+"k", "1")}, api.ErrArg},
		{"a delete of the longest key", []api.Op{del(long)}, api.OK},
		{"a delete of a longer key", []api.Op{del(long + "k")}, api.ErrArg},
		{"keys of any bytes", []api.Op{put("\x00", "1"), put("\xff", "1"), del("\xc3")}, api.OK},
		{"a key that comes again", []api.Op{put("a", "1"), del("a"), put("a", "2"), del("a")}, api.OK},
		{"keys that fall", []api.Op{put("b", "1"), put("a", "1")}, api.OK},
		{"the last one's key is none", []api.Op{put("b", "1"), put("a", "1"), put("", "")}, api.ErrArg},
		{"the first one's key is none", []api.Op{put("", ""), put("a", "1"), put("b", "")}, api.ErrArg},
		{"31 operations", many(31, del("a")), api.OK},
		{"32 operations", many(32, put("a", "1")), api.OK},
		{"32 deletes", many(32, del("a")), api.OK},
		{"33 operations", many(33, put("a", "1")), api.ErrLarge},
		{"33 deletes", many(33, del("a")), api.ErrLarge},
		{"10000 operations", many(10000, del("a")), api.ErrLarge},
		{"a value of 4095 bytes", []api.Op{sized(1, 4095)}, api.OK},
		{"a value of 4096 bytes", []api.Op{sized(1, 4096)}, api.OK},
		{"a value of 4096 bytes, the longest key", []api.Op{sized(64, 4096)}, api.OK},
		{"a value of 4097 bytes", []api.Op{sized(1, 4097)}, api.ErrLarge},
		{"the last value has 4097 bytes", []api.Op{del("a"), put("b", "1"), sized(1, 4097)}, api.ErrLarge},
		{"a value of 2^20 bytes", []api.Op{sized(1, 1<<20)}, api.ErrLarge},
		{"32767 bytes", append(many(7, sized(1, 4095)), sized(1, 4094)), api.OK},
		{"32768 bytes", many(8, sized(1, 4095)), api.OK},
		{"32768 bytes of 32 operations", many(32, sized(64, 960)), api.OK},
		{"32768 bytes, of which one is a delete's", append(many(7, sized(1, 4096)), sized(1, 4087), del("a")), api.OK},
		{"32769 bytes by a value", append(many(7, sized(1, 4095)), sized(1, 4096)), api.ErrLarge},
		{"32769 bytes by a key", append(many(7, sized(1, 4095)), sized(2, 4095)), api.ErrLarge},
		{"32769 bytes by the key of a delete", append(many(8, sized(1, 4095)), del("a")), api.ErrLarge},
		{"32769 bytes of 32 operations", append(many(31, sized(64, 960)), sized(64, 961)), api.ErrLarge},
		{"what comes again counts again", many(8, sized(1, 4096)), api.ErrLarge},
		{"all that may be", many(32, sized(64, 4096)), api.ErrLarge},
	}
	for _, r := range rows {
		if e := batch.Check(r.ops); e != r.e {
			t.Errorf("P10.1: Check of %s: error %d; want %d", r.what, e, r.e)
		}
	}
}

// R5: ErrArg is named first, wherever among the operations its reason stands.
func TestCheckTellsTheFirst(t *testing.T) {
	wrongs := []api.Op{put("", "1"), del(""), put(strings.Repeat("k", 65), ""), {Key: "a", Value: []byte("1"), Delete: true}, sized(0, 4097), sized(65, 4097), {Key: "a", Value: make([]byte, 4097), Delete: true}}
	larges := [][]api.Op{many(33, del("a")), {sized(1, 4097)}, many(8, sized(1, 4096)), many(40, sized(64, 5000))}
	for i, w := range wrongs {
		for k, l := range larges {
			if e := batch.Check(l); e != api.ErrLarge {
				t.Fatalf("P10.1: Check of the large list %d: error %d; want ErrLarge", k, e)
			}
			for at := range len(l) + 1 {
				if e := batch.Check(slices.Insert(slices.Clone(l), at, w)); e != api.ErrArg {
					t.Errorf("P10.1: Check of the large list %d, with the wrong operation %d at %d: error %d; want ErrArg", k, i, at, e)
				}
			}
		}
	}
	if e := batch.Check(make([]api.Op, 33)); e != api.ErrArg {
		t.Errorf("P10.1: Check of 33 zero operations: error %d; want ErrArg", e)
	}
}

// Each length of a key and of a value about its bounds.
func TestCheckOfEachLength(t *testing.T) {
	for key := range 70 {
		for value := 4090; value < 4100; value++ {
			want := api.OK
			if value > valueMost {
				want = api.ErrLarge
			}
			if key < 1 || key > keyMost {
				want = api.ErrArg
			}
			if e := batch.Check([]api.Op{sized(key, value)}); e != want {
				t.Errorf("P10.1: Check of a key of %d bytes, a value of %d: error %d; want %d", key, value, e, want)
			}
		}
	}
}

func TestSize(t *testing.T) {
	rows := []struct {
		ops  []api.Op
		want int
	}{
		{nil, 0},
		{[]api.Op{}, 0},
		{make([]api.Op, 50), 0},
		{[]api.Op{put("a", "1"), del("b")}, 3},
		{[]api.Op{put("a", "1"), put("a", "1"), del("a")}, 5},
		{[]api.Op{put("", "1234")}, 4},
		{[]api.Op{put("é", "")}, 2},
		{[]api.Op{{Key: "ab", Value: []byte("cde"), Delete: true}}, 5}, // no batch, but these are its bytes
		{[]api.Op{{Key: "a", Value: make([]byte, 2, 99)}}, 3},
		{many(32, sized(64, 960)), batchMost},
		{many(33, sized(64, 4096)), 33 * 4160},
		{[]api.Op{sized(100000, 1<<20)}, 100000 + 1<<20},
	}
	for i, r := range rows {
		if got := batch.Size(r.ops); got != r.want {
			t.Errorf("P10.1: Size of the row %d: %d; want %d", i, got, r.want)
		}
	}
}

// Lists whose bytes are one and the same again and again come to 2^31 - 1, and above it.
func TestSizeOfGreatLists(t *testing.T) {
	value := make([]byte, 1<<20)
	key := strings.Repeat("k", 1<<20)
	almost := many(2047, api.Op{Value: value}) // 2^31 - 2^20
	rows := []struct {
		what string
		ops  []api.Op
		want int
	}{
		{"2^31 - 2^20", almost, sizeMost + 1 - 1<<20},
		{"2^31 - 2 by a value", append(slices.Clone(almost), api.Op{Value: value[2:]}), sizeMost - 1},
		{"2^31 - 2 by a key", append(slices.Clone(almost), api.Op{Key: key[2:]}), sizeMost - 1},
		{"2^31 - 1 by a value", append(slices.Clone(almost), api.Op{Value: value[1:]}), sizeMost},
		{"2^31 - 1 by a key", append(slices.Clone(almost), api.Op{Key: key[1:]}), sizeMost},
		{"2^31 - 1 by both", append(slices.Clone(almost), api.Op{Key: key[:9], Value: value[10:]}), sizeMost},
		{"2^31 by a value", append(slices.Clone(almost), api.Op{Value: value}), sizeMost},
		{"2^31 by a key", append(slices.Clone(almost), api.Op{Key: key}), sizeMost},
		{"2^31 by both", append(slices.Clone(almost), api.Op{Key: key[:9], Value: value[9:]}), sizeMost},
		{"more behind 2^31 - 1", append(slices.Clone(almost), api.Op{Value: value[1:]}, put("a", "1"), api.Op{}), sizeMost},
		{"2^32 and more", append(many(4096, api.Op{Value: value}), put("a", "1")), sizeMost},
		{"2^33 of both", many(4096, api.Op{Key: key, Value: value}), sizeMost},
		{"2^40", many(1<<20, api.Op{Value: value}), sizeMost},
	}
	for _, r := range rows {
		if got := batch.Size(r.ops); got != r.want {
			t.Errorf("P10.1: Size of %s: %d; want %d", r.what, got, r.want)
		}
	}
	if e := batch.Check(many(1<<16, api.Op{Key: "a", Value: value})); e != api.ErrLarge {
		t.Errorf("P10.1: Check of 2^36 bytes: error %d; want ErrLarge", e)
	}
}

func TestSizeAndCheckLeaveWhatIsHandedIn(t *testing.T) {
	for _, n := range []int{0, 1, 8, 32, 33} {
		ops := append(many(n, put("b", "22")), put("behind", "it"))
		was := append(many(n, put("b", "22")), put("behind", "it"))
		batch.Check(ops[:n])
		batch.Size(ops[:n])
		if !sameOps(ops, was) || n > 0 && !bytes.Equal(ops[0].Value, []byte("22")) {
			t.Errorf("R3: Check or Size changed %d operations", n)
		}
	}
}
