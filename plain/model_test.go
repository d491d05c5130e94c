package plain_test

import (
	"bytes"
	"maps"
	"slices"
	"strconv"
	"strings"
	"testing"

	"dunnage/api"
)

// The document's numbers stand for themselves here: a turned constant is seen.
const (
	opsMost   = 32
	keyMost   = 64
	valueMost = 4096
	batchMost = 32768
)

// chance is a row of numbers that looks like none, and is the same in each run.
type chance uint64

func (c *chance) next(n int) int {
	*c ^= *c << 13
	*c ^= *c >> 7
	*c ^= *c << 17
	return int(uint64(*c) >> 11 % uint64(n))
}

// list is pairs, from texts that are keys and values by turns.
func list(l ...string) []api.Pair {
	var out []api.Pair
	for i := 0; i+1 < len(l); i += 2 {
		out = append(out, api.Pair{Key: l[i], Value: []byte(l[i+1])})
	}
	return out
}

// sized is a pair of that key, and of so many bytes of value.
func sized(key string, value int) api.Pair {
	return api.Pair{Key: key, Value: bytes.Repeat([]byte{'v'}, value)}
}

func put(key, value string) api.Op { return api.Op{Key: key, Value: []byte(value)} }

func del(key string) api.Op { return api.Op{Key: key, Delete: true} }

func ops(l ...api.Op) []api.Op { return l }

func gone(key, old string) api.Diff { return api.Diff{Key: key, Was: true, Old: []byte(old)} }

func come(key, now string) api.Diff { return api.Diff{Key: key, Is: true, New: []byte(now)} }

func turned(key, old, now string) api.Diff {
	return api.Diff{Key: key, Was: true, Is: true, Old: []byte(old), New: []byte(now)}
}

// same is R9 of two lists of pairs.
func same(a, b []api.Pair) bool {
	return slices.EqualFunc(a, b, func(x, y api.Pair) bool {
		return x.Key == y.Key && bytes.Equal(x.Value, y.Value)
	})
}

// sameOps is R9 of two lists of operations.
func sameOps(a, b []api.Op) bool {
	return slices.EqualFunc(a, b, func(x, y api.Op) bool {
		return x.Key == y.Key && bytes.Equal(x.Value, y.Value) && x.Delete == y.Delete
	})
}

// sameDiffs is R9 of two lists of differences.
func sameDiffs(a, b []api.Diff) bool {
	return slices.EqualFunc(a, b, func(x, y api.Diff) bool {
		return x.Key == y.Key && x.Was == y.Was && x.Is == y.Is && bytes.Equal(x.Old, y.Old) && bytes.Equal(x.New, y.New)
	})
}

// told is pairs for the eye: of a long text its beginning.
func told(l []api.Pair) string {
	var s strings.Builder
	for _, p := range l {
		s.WriteString(strconv.Quote(p.Key[:min(len(p.Key), 20)]) + " " + strconv.Quote(string(p.Value[:min(len(p.Value), 20)])) + ", ")
	}
	return strconv.Itoa(len(l)) + " pairs: " + s.String()
}

// stands is the order of keys, byte by byte: below 0, if a stands below b, 0, if they are the same text.
func stands(a, b string) int {
	for i := 0; i < len(a) && i < len(b); i++ {
		if a[i] != b[i] {
			return int(a[i]) - int(b[i])
		}
	}
	return len(a) - len(b)
}

// in is chapter 9's range: from lo on, below hi, unless that is no end.
func in(lo, hi, key string) bool {
	return stands(key, lo) >= 0 && (hi == "" || stands(key, hi) < 0)
}

// table is a list as a map from keys to values; it has no order, and no key twice.
type table map[string]string

func tableOf(l []api.Pair) table {
	t := table{}
	for _, p := range l {
		t[p.Key] = string(p.Value)
	}
	return t
}

func (t table) sorted() []string { return slices.SortedFunc(maps.Keys(t), stands) }

// pairs is the table as a list by rising keys, each value in its own memory.
func (t table) pairs() []api.Pair {
	var l []api.Pair
	for _, key := range t.sorted() {
		l = append(l, api.Pair{Key: key, Value: []byte(t[key])})
	}
	return l
}

// do is the table behind operations, one by one.
func (t table) do(l []api.Op) table {
	out := maps.Clone(t)
	for _, op := range l {
		delete(out, op.Key)
		if !op.Delete {
			out[op.Key] = string(op.Value)
		}
	}
	return out
}

// scan is the table's first pairs within lo and hi, at most so many.
func (t table) scan(lo, hi string, most int) []api.Pair {
	var l []api.Pair
	for _, p := range t.pairs() {
		if in(lo, hi, p.Key) && len(l) < most {
			l = append(l, p)
		}
	}
	return l
}

// differ is what is not alike in two tables.
func (t table) differ(o table) []api.Diff {
	both := maps.Clone(t)
	maps.Copy(both, o)
	var l []api.Diff
	for _, key := range both.sorted() {
		old, was := t[key]
		now, is := o[key]
		if was != is || old != now {
			l = append(l, api.Diff{Key: key, Was: was, Is: is, Old: []byte(old), New: []byte(now)})
		}
	}
	return l
}

// bytes counts the table's.
func (t table) bytes() int {
	n := 0
	for key, value := range t {
		n += len(key) + len(value)
	}
	return n
}

// names are keys that stand close to one another, and at the bounds.
func names() []string {
	return []string{"\x00", "\x00\x00", "a", "a\x00", "ab", "b", "k", strings.Repeat("k", keyMost-1), strings.Repeat("k", keyMost), "\x7f", "\x80", "\xc3\xa9", "\xff", "\xff\xff"}
}

// texts are names, and texts about them that are no keys, or that no list here has.
func texts() []string {
	return append(names(), "", "A", "aa", "abc", "c", strings.Repeat("k", keyMost+1), strings.Repeat("k", 5000), "\xfe", "\xff\xff\xff")
}

// anyTable has each of these keys, or not, with values of which some are alike.
func anyTable(c *chance, keys []string) table {
	t := table{}
	most := 1 + c.next(4) // from mostly full tables to thin ones
	for _, key := range keys {
		if c.next(most+1) > 0 {
			continue
		}
		t[key] = strings.Repeat("v", c.next(3))
	}
	return t
}

// anyOps is n operations on these keys.
func anyOps(c *chance, n int, keys []string) []api.Op {
	var l []api.Op
	for i := range n {
		key := keys[c.next(len(keys))]
		switch c.next(5) {
		case 0, 1:
			l = append(l, del(key))
		case 2:
			l = append(l, api.Op{Key: key})
		default:
			l = append(l, put(key, strconv.Itoa(i)))
		}
	}
	return l
}

// shortTables are all tables of these keys, each absent, or with one of these values.
func shortTables(keys, values []string) []table {
	all := []table{{}}
	for _, key := range keys {
		for _, t := range slices.Clone(all) {
			for _, value := range values {
				more := maps.Clone(t)
				more[key] = value
				all = append(all, more)
			}
		}
	}
	return all
}

// bads are lists that may not be: of each what is wrong with it.
func bads() map[string][]api.Pair {
	long := strings.Repeat("k", keyMost)
	return map[string][]api.Pair{
		"an empty key":                        list("", "1"),
		"an empty key, with no value":         {{}},
		"an empty key ahead":                  list("", "1", "a", "1"),
		"an empty key at the end":             list("a", "1", "", "1"),
		"a key that is too long":              list(long+"k", "1"),
		"a key that is too long, ahead":       list(long+"k", "1", "z", "1"),
		"a key that is too long, at the end":  list("a", "1", "b", "1", long+"k", "1"),
		"a key of 5000 bytes":                 list("a", "1", strings.Repeat("z", 5000), "1"),
		"a key that comes twice":              list("a", "1", "a", "2"),
		"a pair that comes twice":             list("a", "1", "a", "1"),
		"the last key twice":                  list("a", "1", "b", "1", "c", "1", "c", "1"),
		"the first key twice":                 list("a", "1", "a", "1", "b", "1", "c", "1"),
		"keys that fall":                      list("b", "1", "a", "1"),
		"keys that fall at the end":           list("a", "1", "c", "1", "d", "1", "b", "1"),
		"keys that fall at the front":         list("b", "1", "a", "1", "c", "1", "d", "1"),
		"a key that comes again later":        list("a", "1", "b", "1", "a", "1"),
		"a longer key ahead of its beginning": list("ab", "1", "a", "1"),
		"a byte 0 more ahead":                 list("a\x00", "1", "a", "1"),
		"bytes that fall about 128":           list("\x80", "1", "\x7f", "1"),
		"bytes that fall from 255":            list("\xff", "1", "a", "1"),
		"a value of 4097 bytes":               {sized("a", valueMost+1)},
		"a value of 4097 bytes ahead":         {sized("a", valueMost+1), sized("b", 1)},
		"a value of 4097 bytes at the end":    {sized("a", 1), sized("b", valueMost+1)},
		"a value of 2^20 bytes":               {sized("a", 1), sized("b", 1<<20), sized("c", 1)},
		"all of it":                           {sized("b", 1), sized("b", 5000), sized("", 9), sized("a", 1)},
	}
}

// What the other tests lean on: the table's pairs rise, and it tells the chapter's example.
func TestModel(t *testing.T) {
	all := table{}
	for _, key := range names() {
		all[key] = "v"
	}
	l := all.pairs()
	for i := 1; i < len(l); i++ {
		if stands(l[i-1].Key, l[i].Key) >= 0 {
			t.Errorf("%q stands ahead of %q", l[i-1].Key, l[i].Key)
		}
	}
	if len(l) != len(names()) || !maps.Equal(tableOf(l), all) {
		t.Errorf("%d pairs of %d names", len(l), len(names()))
	}
	two := tableOf(list("a", "1", "b", "2"))
	if got := two.do(ops(put("b", "3"), del("a"), put("c", "4"))).pairs(); !same(got, list("b", "3", "c", "4")) {
		t.Errorf("example 1: the model does %s", told(got))
	}
	if got := two.differ(tableOf(list("b", "3", "c", "4"))); !sameDiffs(got, []api.Diff{gone("a", "1"), turned("b", "2", "3"), come("c", "4")}) {
		t.Errorf("example 1: the model tells %+v", got)
	}
	if n := len(shortTables([]string{"a", "b", "c"}, []string{"", "1"})); n != 27 {
		t.Errorf("%d short tables; want 27", n)
	}
}
