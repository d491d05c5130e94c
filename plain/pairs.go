package plain

import (
	"bytes"
	"slices"
	"sort"

	"dunnage/api"
	"dunnage/keys"
)

// may: is p a pair that a list may have, whatever stands beside it?
func may(p api.Pair) bool { return keys.May(p.Key) && len(p.Value) <= api.MaxValue }

// place is where key stands in l, which is by rising keys, or would stand: behind all that are below it.
func place(l []api.Pair, key string) int {
	return sort.Search(len(l), func(i int) bool { return !keys.Less(l[i].Key, key) })
}

// find is the place of key in l, and whether it is there.
func find(l []api.Pair, key string) (int, bool) {
	at := place(l, key)
	return at, at < len(l) && l[at].Key == key
}

// carried is l behind one operation. It works in l's own memory, and keeps the operation's value.
func carried(l []api.Pair, op api.Op) []api.Pair {
	at, is := find(l, op.Key)
	switch {
	case op.Delete && is:
		return slices.Delete(l, at, at+1)
	case op.Delete:
		return l
	case is:
		l[at].Value = op.Value
		return l
	}
	return slices.Insert(l, at, api.Pair{Key: op.Key, Value: op.Value})
}

// copied is l in new memory, its values, too.
func copied(l []api.Pair) []api.Pair {
	var out []api.Pair
	for _, p := range l {
		out = append(out, api.Pair{Key: p.Key, Value: bytes.Clone(p.Value)})
	}
	return out
}

// least is the least key of both lists, of which one has a pair at least.
func least(a, b []api.Pair) string {
	if len(b) == 0 || len(a) > 0 && keys.Less(a[0].Key, b[0].Key) {
		return a[0].Key
	}
	return b[0].Key
}

// taken is the first pair's value, true, and the rest of l, if that pair's key is key; else nothing, and l.
func taken(l []api.Pair, key string) ([]byte, bool, []api.Pair) {
	if len(l) == 0 || l[0].Key != key {
		return nil, false, l
	}
	return l[0].Value, true, l[1:]
}
