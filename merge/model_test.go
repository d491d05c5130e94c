package merge_test

import (
	"iter"
	"maps"
	"slices"
	"strconv"
	"strings"
	"testing"

	"dunnage/api"
	"dunnage/merge"
)

// The document's numbers stand for themselves here: a turned constant is seen.
const (
	keyMost   = 64
	listsMost = 16
)

// chance is a row of numbers that looks like none, and is the same in each run.
type chance uint64

func (c *chance) next(n int) int {
	*c ^= *c << 13
	*c ^= *c >> 7
	*c ^= *c << 17
	return int(uint64(*c) >> 11 % uint64(n))
}

// entry is the key's entry in the list of that number: another one in each list, in each field of its ref.
func entry(of int, key string) api.Entry {
	return api.Entry{Key: key, Ref: api.Ref{Serial: uint64(of), At: 100*of + len(key), Len: 7 - of}}
}

// list is the list of that number, of these keys.
func list(of int, keys ...string) []api.Entry {
	var l []api.Entry
	for _, key := range keys {
		l = append(l, entry(of, key))
	}
	return l
}

func lists(l ...[]api.Entry) [][]api.Entry { return l }

// told is entries for the eye: of each its key's beginning, and the number of its list.
func told(l []api.Entry) string {
	var s strings.Builder
	for _, x := range l {
		s.WriteString(strconv.Quote(x.Key[:min(len(x.Key), 20)]) + " " + strconv.FormatUint(x.Ref.Serial, 10) + ", ")
	}
	return "[" + strings.TrimSuffix(s.String(), ", ") + "]"
}

func toldAll(l [][]api.Entry) string {
	var s []string
	for _, x := range l {
		s = append(s, told(x))
	}
	return strings.Join(s, " ")
}

// two is what Walk tells at one key.
type two struct{ a, b api.Entry }

func toldTwos(l []two) string {
	var s []string
	for _, x := range l {
		s = append(s, told([]api.Entry{x.a})+"-"+told([]api.Entry{x.b}))
	}
	return strings.Join(s, " ")
}

// twos is all that a Walk's sequence tells.
func twos(seq iter.Seq2[api.Entry, api.Entry]) []two {
	var l []two
	for a, b := range seq {
		l = append(l, two{a, b})
	}
	return l
}

// stands is chapter 9's order, byte by byte: below 0, if a stands below b, above 0, if b below a, 0, if they are one.
func stands(a, b string) int {
	for i := 0; i < len(a) && i < len(b); i++ {
		if a[i] != b[i] {
			return int(a[i]) - int(b[i])
		}
	}
	return len(a) - len(b)
}

// table is a list as a map; it has no order.
type table map[string]api.Entry

func tableOf(l []api.Entry) table {
	t := table{}
	for _, x := range l {
		t[x.Key] = x
	}
	return t
}

// union is all keys of these tables, rising.
func union(ts []table) []string {
	all := table{}
	for _, t := range ts {
		maps.Copy(all, t)
	}
	return slices.SortedFunc(maps.Keys(all), stands)
}

// merged is what Merge should answer: for each key its lists are asked one by one.
func merged(l [][]api.Entry) []api.Entry {
	var ts []table
	for _, x := range l {
		ts = append(ts, tableOf(x))
	}
	var out []api.Entry
next:
	for _, key := range union(ts) {
		for _, t := range ts {
			if x, is := t[key]; is {
				out = append(out, x)
				continue next
			}
		}
	}
	return out
}

// walked is what Walk should tell.
func walked(a, b []api.Entry) []two {
	x, y := tableOf(a), tableOf(b)
	var out []two
	for _, key := range union([]table{x, y}) {
		out = append(out, two{x[key], y[key]})
	}
	return out
}

// names are keys that stand close to one another, and at the bounds.
func names() []string {
	return []string{"\x00", "\x00\x00", "a", "a\x00", "ab", "b", strings.Repeat("k", keyMost-1), strings.Repeat("k", keyMost), "\x7f", "\x80", "\xc3\xa9", "\xff", "\xff\xff"}
}

// anyList has each of these keys, which rise, or not.
func anyList(c *chance, of int, keys []string) []api.Entry {
	var l []api.Entry
	most := 1 + c.next(4) // from mostly full lists to thin ones
	for _, key := range keys {
		if c.next(most+1) == 0 {
			l = append(l, entry(of, key))
		}
	}
	return l
}

// anyLists is n such lists, some of them empty.
func anyLists(c *chance, n int, keys []string) [][]api.Entry {
	l := make([][]api.Entry, n)
	for of := range l {
		if c.next(6) > 0 {
			l[of] = anyList(c, of+1, keys)
		}
	}
	return l
}

// shortLists is all lists of that number that have some of these keys.
func shortLists(of int, keys ...string) [][]api.Entry {
	var all [][]api.Entry
	for set := range 1 << len(keys) {
		var l []api.Entry
		for i, key := range keys {
			if set>>i&1 == 1 {
				l = append(l, entry(of, key))
			}
		}
		all = append(all, l)
	}
	return all
}

// bads are lists that may not be: of each what is wrong with it.
func bads() map[string][]api.Entry {
	long := strings.Repeat("k", keyMost+1)
	return map[string][]api.Entry{
		"an empty key":                        list(1, ""),
		"an entry of zeros":                   {{}},
		"an empty key ahead":                  list(1, "", "a"),
		"an empty key at the end":             list(1, "a", ""),
		"a key that is too long":              list(1, long),
		"a key that is too long, ahead":       list(1, long, "z"),
		"a key that is too long, at the end":  list(1, "a", "b", long),
		"a key of 5000 bytes":                 list(1, "a", strings.Repeat("z", 5000)),
		"an entry that comes twice":           list(1, "a", "a"),
		"a key that comes twice":              {entry(1, "a"), entry(2, "a")},
		"the first key twice":                 list(1, "a", "a", "b", "c"),
		"the last key twice":                  list(1, "a", "b", "c", "c"),
		"keys that fall":                      list(1, "b", "a"),
		"keys that fall at the front":         list(1, "b", "a", "c", "d"),
		"keys that fall at the end":           list(1, "a", "c", "d", "b"),
		"a key that comes again later":        list(1, "a", "b", "a"),
		"a longer key ahead of its beginning": list(1, "ab", "a"),
		"a byte 0 more ahead":                 list(1, "a\x00", "a"),
		"bytes that fall about 128":           list(1, "\x80", "\x7f"),
		"bytes that fall from 255":            list(1, "\xff", "a"),
		"all of it":                           list(1, "b", "b", "", long, "a"),
	}
}

// mustMerge is Merge of lists that may be; All of them has to tell the same.
func mustMerge(t *testing.T, l [][]api.Entry) []api.Entry {
	t.Helper()
	got, e := merge.Merge(l)
	if e != api.OK {
		t.Fatalf("P12.1: Merge of %s: error %d", toldAll(l), e)
	}
	if all := slices.Collect(mustAll(t, l)); !slices.Equal(all, got) {
		t.Fatalf("P12.1: All of %s: %s; Merge: %s", toldAll(l), told(all), told(got))
	}
	return got
}

// mustAll is All of lists that may be.
func mustAll(t *testing.T, l [][]api.Entry) iter.Seq[api.Entry] {
	t.Helper()
	all, e := merge.All(l)
	if e != api.OK || all == nil {
		t.Fatalf("P12.1: All of %s: error %d, nil: %v", toldAll(l), e, all == nil)
	}
	return all
}

// mustWalk is Walk of lists that may be.
func mustWalk(t *testing.T, a, b []api.Entry) iter.Seq2[api.Entry, api.Entry] {
	t.Helper()
	both, e := merge.Walk(a, b)
	if e != api.OK || both == nil {
		t.Fatalf("P12.1: Walk of %s, %s: error %d, nil: %v", told(a), told(b), e, both == nil)
	}
	return both
}

// What the other tests lean on: the names rise, entries of two lists differ, and the model tells the chapter's example.
func TestModel(t *testing.T) {
	l := names()
	for i := 1; i < len(l); i++ {
		if stands(l[i-1], l[i]) >= 0 {
			t.Errorf("%q stands ahead of %q", l[i-1], l[i])
		}
	}
	if entry(1, "a") == entry(2, "a") {
		t.Error("the entries of two lists are one")
	}
	if got, want := merged(lists(list(1, "a", "c"), list(2, "a", "b"))), []api.Entry{entry(1, "a"), entry(2, "b"), entry(1, "c")}; !slices.Equal(got, want) {
		t.Errorf("example 1: the model merges %s", told(got))
	}
	if got, want := walked(list(1, "a"), list(2, "a", "b")), []two{{entry(1, "a"), entry(2, "a")}, {b: entry(2, "b")}}; !slices.Equal(got, want) {
		t.Errorf("example 1: the model walks %s", toldTwos(got))
	}
	if n := len(shortLists(1, "a", "b", "c")); n != 8 {
		t.Errorf("%d short lists; want 8", n)
	}
}
