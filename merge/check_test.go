package merge_test

import (
	"math"
	"slices"
	"strconv"
	"strings"
	"testing"

	"dunnage/api"
	"dunnage/merge"
)

func TestCheckOfListsThatMayBe(t *testing.T) {
	long := strings.Repeat("k", keyMost)
	rows := map[string][]api.Entry{
		"nil":                     nil,
		"no entry":                {},
		"one entry":               list(1, "a"),
		"a ref of zeros":          {{Key: "a"}},
		"keys that rise":          list(1, "a", "b", "c"),
		"refs that fall":          {entry(9, "a"), entry(5, "b"), entry(1, "c")},
		"refs that are alike":     {{Key: "a", Ref: api.Ref{Serial: 1}}, {Key: "b", Ref: api.Ref{Serial: 1}}},
		"a key, and a longer one": list(1, "a", "a\x00", "a\x00\x00", "aa", "ab", "b"),
		"keys of any bytes":       list(1, "\x00", "\x7f", "\x80", "\xc3", "\xff"),
		"the longest keys":        list(1, long[1:], long, long[1:]+"l"),
		// Only keys are spoken of: a ref may be what it likes.
		"refs of any numbers": {
			{Key: "a", Ref: api.Ref{Serial: math.MaxUint64, At: math.MinInt, Len: math.MinInt}},
			{Key: "b", Ref: api.Ref{At: math.MaxInt, Len: math.MaxInt}},
			{Key: "c", Ref: api.Ref{At: -1, Len: -1}},
		},
	}
	for what, l := range rows {
		if e := merge.Check(l); e != api.OK {
			t.Errorf("P12.1: Check of %s: error %d; want OK", what, e)
		}
		if got := mustMerge(t, lists(l)); !slices.Equal(got, l) {
			t.Errorf("P12.1: Merge of %s: %s", what, told(got))
		}
	}
}

func TestCheckOfListsThatMayNotBe(t *testing.T) {
	for what, l := range bads() {
		if e := merge.Check(l); e != api.ErrForm {
			t.Errorf("P12.1: Check of %s: error %d; want ErrForm", what, e)
		}
	}
}

func TestCheckOfEachLength(t *testing.T) {
	for n := range 300 {
		want := api.OK
		if n < 1 || n > keyMost {
			want = api.ErrForm
		}
		if e := merge.Check(list(1, strings.Repeat("k", n))); e != want {
			t.Errorf("P12.1: Check of a key of %d bytes: error %d; want %d", n, e, want)
		}
	}
}

// All lists of up to five of these keys, in any order, with any of them again.
func TestCheckOfAllShortLists(t *testing.T) {
	var grow func(l []api.Entry, rises bool)
	grow = func(l []api.Entry, rises bool) {
		want := api.ErrForm
		if rises {
			want = api.OK
		}
		if e := merge.Check(l); e != want {
			t.Fatalf("P12.1: Check of %s: error %d; want %d", told(l), e, want)
		}
		if len(l) == 5 {
			return
		}
		for _, key := range []string{"", "\x00", "a", "a\x00", "ab", "b", "\xff"} {
			fits := rises && key != "" && (len(l) == 0 || stands(l[len(l)-1].Key, key) < 0)
			grow(append(slices.Clone(l), entry(1, key)), fits)
		}
	}
	grow(nil, true)
}

// One fault at each place of a long list is seen.
func TestCheckOfAFaultAtEachPlace(t *testing.T) {
	var l []api.Entry
	for i := range 300 {
		l = append(l, entry(1, "k"+strconv.Itoa(1000+i)))
	}
	for at := range l {
		turns := map[string]string{"no key": "", "a long key": l[at].Key + strings.Repeat("k", keyMost)}
		if at > 0 {
			turns["the key ahead"] = l[at-1].Key
			turns["a key below"] = "j"
		}
		if at+1 < len(l) {
			turns["the key behind"] = l[at+1].Key
			turns["a key above"] = "l"
		}
		for what, key := range turns {
			other := slices.Clone(l)
			other[at].Key = key
			if e := merge.Check(other); e != api.ErrForm {
				t.Errorf("P12.1: Check of 300 entries, at %d %s: error %d; want ErrForm", at, what, e)
			}
		}
	}
	if e := merge.Check(l); e != api.OK {
		t.Errorf("P12.1: Check of 300 entries: error %d; want OK", e)
	}
}
