package batch

import (
	"dunnage/api"
	"dunnage/keys"
	"dunnage/word"
)

// What the byte of a change says.
const (
	stays   = 0 // a Ref follows
	deleted = 1
)

// entry is a record of the log, with what its kind makes of it.
type entry api.Record

// kind is what has to be known of the records of one Kind: which of them may be, what stands behind the Kind's byte, and how that is read.
type kind struct {
	may   func(entry) bool
	write func(entry) []byte
	read  func(*reader) entry
}

// kinds is all kinds that there are.
func kinds() map[int]kind {
	return map[int]kind{
		api.RecBatch: {entry.mayBatch, entry.batchBytes, (*reader).batch},
		api.RecMove:  {entry.mayMove, entry.moveBytes, (*reader).move},
	}
}

// mayBatch: see the chapter's words.
func (r entry) mayBatch() bool {
	return r.Seq >= 1 && within(len(r.Changes), 1, api.MaxOps) && mayChanges(r.Changes) && r.Move == api.Move{}
}

// mayMove: see the chapter's words.
func (r entry) mayMove() bool {
	m := r.Move
	return r.Seq == 0 && len(r.Changes) == 0 &&
		m.Serial >= 1 && mayPlace(m.From) && mayPlace(m.To) && m.From != m.To && within(m.N, 1, api.MaxParts)
}

// batchBytes is what of a batch, which may be, stands behind its Kind.
func (r entry) batchBytes() []byte {
	b := numbers(r.Seq, uint64(len(r.Changes)))
	for _, c := range r.Changes {
		b = append(b, changeBytes(c)...)
	}
	return b
}

// moveBytes is what of a move, which may be, stands behind its Kind.
func (r entry) moveBytes() []byte {
	m := r.Move
	return numbers(m.Serial, uint64(m.From), uint64(m.To), uint64(m.N))
}

// mayChanges: are all of l changes that may be, by rising keys?
func mayChanges(l []api.Change) bool {
	for i, c := range l {
		if !mayChange(c) || i > 0 && !keys.Less(l[i-1].Key, c.Key) {
			return false
		}
	}
	return true
}

// mayChange: is it a key that gets a value, or is gone?
func mayChange(c api.Change) bool {
	if !keys.May(c.Key) {
		return false
	}
	if c.Delete {
		return c.Ref == api.Ref{}
	}
	return c.Ref.Serial >= 1 && mayPlace(c.Ref.At) && within(c.Ref.Len, 0, api.MaxValue)
}

// mayPlace: may a record of the log name the place at?
func mayPlace(at int) bool { return within(at, 0, api.MaxSectors) }

// within: is v from lo to hi?
func within(v, lo, hi int) bool { return v >= lo && v <= hi }

// changeBytes is c, which may be, as bytes.
func changeBytes(c api.Change) []byte {
	b := word.Text([]byte(c.Key))
	if c.Delete {
		return append(b, deleted)
	}
	b = append(b, stays)
	return append(b, numbers(c.Ref.Serial, uint64(c.Ref.At), uint64(c.Ref.Len))...)
}

// numbers is numbers as bytes, one behind the other.
func numbers(l ...uint64) []byte {
	var b []byte
	for _, v := range l {
		b = append(b, word.Var(v)...)
	}
	return b
}
