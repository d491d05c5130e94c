package plain_test

import (
	"math"
	"slices"
	"strconv"
	"strings"
	"testing"

	"dunnage/api"
	"dunnage/plain"
)

func TestCheckOfListsThatMayBe(t *testing.T) {
	long := strings.Repeat("k", keyMost)
	rows := map[string][]api.Pair{
		"nil":                        nil,
		"no pair":                    {},
		"one pair":                   list("a", "1"),
		"a value of nothing":         {{Key: "a"}},
		"a value of no bytes":        list("a", ""),
		"pairs that rise":            list("a", "1", "b", "2", "c", "3"),
		"values that are alike":      list("a", "1", "b", "1"),
		"values that fall":           list("a", "3", "b", "2"),
		"a key, and a longer one":    list("a", "1", "a\x00", "1", "a\x00\x00", "1", "aa", "1", "ab", "1", "b", "1"),
		"keys of any bytes":          list("\x00", "1", "\x7f", "1", "\x80", "1", "\xc3", "1", "\xff", "1"),
		"the longest keys":           list(long[1:], "1", long, "1", long[1:]+"l", "1"),
		"a value of 4095 bytes":      {sized("a", valueMost-1)},
		"a value of 4096 bytes":      {sized("a", valueMost)},
		"values of 4096 bytes":       {sized("a", valueMost), sized("b", valueMost), sized("c", valueMost)},
		"more room than bytes":       {{Key: "a", Value: make([]byte, valueMost, 3*valueMost)}},
		"more bytes than of a batch": slices.Repeat([]api.Pair{sized("", valueMost)}, 40),
	}
	for i := range rows["more bytes than of a batch"] { // more pairs, too, than a batch has operations
		rows["more bytes than of a batch"][i].Key = string(rune('0' + i))
	}
	for what, l := range rows {
		if e := plain.Check(l); e != api.OK {
			t.Errorf("P11.1: Check of %s: error %d; want OK", what, e)
		}
	}
}

func TestCheckOfListsThatMayNotBe(t *testing.T) {
	for what, l := range bads() {
		if e := plain.Check(l); e != api.ErrForm {
			t.Errorf("P11.1: Check of %s: error %d; want ErrForm", what, e)
		}
	}
}

// Each length of a key and of a value about its bounds.
func TestCheckOfEachLength(t *testing.T) {
	for key := range 70 {
		for value := valueMost - 3; value < valueMost+4; value++ {
			want := api.OK
			if key < 1 || key > keyMost || value > valueMost {
				want = api.ErrForm
			}
			if e := plain.Check([]api.Pair{sized(strings.Repeat("k", key), value)}); e != want {
				t.Errorf("P11.1: Check of a key of %d bytes, a value of %d: error %d; want %d", key, value, e, want)
			}
		}
	}
}

// All lists of up to four of these keys, in any order, with any of them again.
func TestCheckOfAllShortLists(t *testing.T) {
	var grow func(l []api.Pair, rises bool)
	grow = func(l []api.Pair, rises bool) {
		want := api.ErrForm
		if rises {
			want = api.OK
		}
		if e := plain.Check(l); e != want {
			t.Fatalf("P11.1: Check of %s: error %d; want %d", told(l), e, want)
		}
		if len(l) == 4 {
			return
		}
		for _, key := range []string{"", "\x00", "a", "a\x00", "ab", "b", "\xff"} {
			fits := rises && key != "" && (len(l) == 0 || stands(l[len(l)-1].Key, key) < 0)
			grow(append(slices.Clone(l), api.Pair{Key: key}), fits)
		}
	}
	grow(nil, true)
}

// One fault at each place of a long list is seen.
func TestCheckOfAFaultAtEachPlace(t *testing.T) {
	var l []api.Pair
	for i := range 300 {
		l = append(l, sized("k"+strconv.Itoa(1000+i), 1))
	}
	for at := range l {
		turns := map[string]api.Pair{"no key": sized("", 1), "a long value": sized(l[at].Key, valueMost+1), "a long key": sized(l[at].Key+strings.Repeat("k", keyMost), 1)}
		if at > 0 {
			turns["the key ahead"] = l[at-1]
			turns["a key below"] = sized("j", 1)
		}
		if at+1 < len(l) {
			turns["the key behind"] = l[at+1]
			turns["a key above"] = sized("l", 1)
		}
		for what, p := range turns {
			other := slices.Clone(l)
			other[at] = p
			if e := plain.Check(other); e != api.ErrForm {
				t.Errorf("P11.1: Check of 300 pairs, at %d %s: error %d; want ErrForm", at, what, e)
			}
		}
	}
	if e := plain.Check(l); e != api.OK {
		t.Errorf("P11.1: Check of 300 pairs: error %d; want OK", e)
	}
}

// Of a list that may not be nothing is told, whatever of it would be in order.
func TestZeroOfListsThatMayNotBe(t *testing.T) {
	good := list("a", "1", "b", "2")
	for what, l := range bads() {
		for _, key := range append(texts(), "z") {
			if v, is := plain.Get(l, key); v != nil || is {
				t.Errorf("P11.1: Get of %.20q from %s: %.20q, %v", key, what, v, is)
			}
		}
		for _, r := range [][2]string{{"", ""}, {"a", ""}, {"", "b"}, {"a", "b"}, {"b", "a"}} {
			for _, most := range []int{math.MinInt, 0, 1, 9, math.MaxInt} {
				if got := plain.Scan(l, r[0], r[1], most); got != nil {
					t.Errorf("P11.1: Scan(%q, %q, %d) of %s: %s", r[0], r[1], most, what, told(got))
				}
			}
		}
		for _, other := range [][]api.Pair{nil, good, l} {
			if got := plain.Differ(l, other); got != nil {
				t.Errorf("P11.1: Differ of %s and %s: %d told", what, told(other), len(got))
			}
			if got := plain.Differ(other, l); got != nil {
				t.Errorf("P11.1: Differ of %s and %s: %d told", told(other), what, len(got))
			}
		}
		if n := plain.Bytes(l); n != 0 {
			t.Errorf("P11.1: Bytes of %s: %d", what, n)
		}
	}
}

func TestGet(t *testing.T) {
	l := []api.Pair{sized("a", 1), {Key: "b"}, sized("c", 0), sized("d", valueMost), sized(strings.Repeat("k", keyMost), 5)}
	rows := []struct {
		l    []api.Pair
		key  string
		want string
		is   bool
	}{
		{l, "a", "v", true}, {l, "b", "", true}, {l, "c", "", true},
		{l, "d", strings.Repeat("v", valueMost), true}, {l, strings.Repeat("k", keyMost), "vvvvv", true},
		{l, "", "", false}, {l, "A", "", false}, {l, "a\x00", "", false}, {l, "aa", "", false}, {l, "bb", "", false}, {l, "e", "", false},
		{l, strings.Repeat("k", keyMost-1), "", false}, {l, strings.Repeat("k", keyMost+1), "", false}, {l, "\x00", "", false}, {l, "\xff", "", false},
		{nil, "", "", false}, {nil, "a", "", false}, {[]api.Pair{}, "a", "", false},
		{list("a", "1"), "a", "1", true}, {list("a", "1"), "0", "", false}, {list("a", "1"), "b", "", false},
		{list("\x7f", "1", "\x80", "2", "\xff", "3"), "\x80", "2", true}, {list("\x7f", "1", "\x80", "2", "\xff", "3"), "\xff", "3", true},
	}
	for i, r := range rows {
		if v, is := plain.Get(r.l, r.key); string(v) != r.want || is != r.is {
			t.Errorf("P11.1: Get of the row %d: %.20q, %v; want %.20q, %v", i, v, is, r.want, r.is)
		}
	}
}

// Each pair of lists of each length is found, and what stands just beside it is not.
func TestGetOfEachPlace(t *testing.T) {
	for n := range 70 {
		var l []api.Pair
		for i := range n {
			l = append(l, api.Pair{Key: string([]byte{byte(2*i + 1)}), Value: []byte(strconv.Itoa(i))})
		}
		for b := range 2*n + 2 {
			v, is := plain.Get(l, string([]byte{byte(b)}))
			if want := b%2 == 1 && b < 2*n; is != want || is && string(v) != strconv.Itoa(b/2) || !is && v != nil {
				t.Fatalf("P11.1: Get of the byte %d from %d pairs: %q, %v", b, n, v, is)
			}
		}
	}
}

func TestGetOfAnyLists(t *testing.T) {
	c := chance(21)
	for range 2000 {
		m := anyTable(&c, names())
		l := m.pairs()
		for _, key := range texts() {
			want, has := m[key]
			if v, is := plain.Get(l, key); string(v) != want || is != has {
				t.Fatalf("P11.1: Get of %.20q from %s: %q, %v; want %q, %v", key, told(l), v, is, want, has)
			}
		}
	}
}

func TestBytes(t *testing.T) {
	rows := []struct {
		l    []api.Pair
		want int
	}{
		{nil, 0},
		{[]api.Pair{}, 0},
		{list("a", "1", "b", "2"), 4},
		{list("a", ""), 1},
		{[]api.Pair{{Key: "abc"}}, 3},
		{list("a", "12345"), 6},
		{list("abcde", "1"), 6},
		{list("é", "日"), 5},
		{[]api.Pair{{Key: "a", Value: make([]byte, 2, 99)}}, 3},
		{[]api.Pair{sized(strings.Repeat("k", keyMost), valueMost)}, keyMost + valueMost},
		{[]api.Pair{sized("a", valueMost), sized("b", valueMost), sized("c", valueMost)}, 3 * (valueMost + 1)},
	}
	for i, r := range rows {
		if got := plain.Bytes(r.l); got != r.want {
			t.Errorf("P11.2: Bytes of the row %d: %d; want %d", i, got, r.want)
		}
	}
	c := chance(4)
	for range 500 {
		m := anyTable(&c, names())
		if got, want := plain.Bytes(m.pairs()), m.bytes(); got != want {
			t.Fatalf("P11.2: Bytes of %s: %d; want %d", told(m.pairs()), got, want)
		}
	}
}

// R7: values that are one and the same again and again come to more than 2^31 bytes.
func TestBytesOfAGreatList(t *testing.T) {
	if strconv.IntSize < 64 {
		t.Skip("an int does not hold it")
	}
	value := make([]byte, valueMost)
	var l []api.Pair
	for i := range 600000 {
		l = append(l, api.Pair{Key: strconv.Itoa(1000000 + i), Value: value})
	}
	if got, want := int64(plain.Bytes(l)), int64(600000*(7+valueMost)); got != want {
		t.Errorf("P11.2: Bytes of 600000 pairs: %d; want %d", got, want)
	}
}
